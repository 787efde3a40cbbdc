/- Contract of the reference's TokensOf. -/
import Derived.Test.YtndeifdpiimbeaaGreatDoorTokens
import Derived.Maps.AppendAt
namespace Go.Proofs.YtndeifdpiimbeaaGreatDoor
open Go.RowKit

/-- append of one string that was just laid; where the row lies then -/
theorem app_str_at {ops : Array Oper} {rest : List Oper} {o : Oper} {a : Act} {Q : Exit → Act → World → Prop} (w : World) (hgd : o.guard = none) (sl x : Operand)
    (ho : o.op = .call { callee := .builtin .append, args := #[sl, x], argTypes := #[43, 43] }) (base : Nat) (v : Value) (l : List ByteArray) (hs : a.eval sl = v) (hown : OwnS w base v l) (ad : Addr) (u : ByteArray) (hx : a.eval x = .slice (some ad) 1 1)
    (h : ∀ v' w', OwnS w' base v' (l ++ [u]) → w.grownBy w' v.ownBlock → (v'.ownBlock = v.ownBlock ∨ v'.ownBlock = some w.heap.size) → wpList Tryz.prog ops Q rest (a.put o.dst v') w')
    (hnews : ∀ j z, (svs [u])[j]? = some z → w.cell? (ad.add j) = some z) (hb : l.length + 1 ≤ 4000000000000) (hbase : base ≤ w.heap.size) : wpList Tryz.prog ops Q (o :: rest) a w := by
  obtain ⟨i0, hi, hz0, hz1, hz2⟩ := info_parts info_str
  refine wpList_append_own_at w hgd sl x _ ho base 9 i0 (.string ⟨#[]⟩) 1 16 Tryz.underlying43 hi hz0 hz1 hz2 rfl (by omega) v l.length (svs l) hs hown ad 1 1 (svs [u]) hx rfl hnews ?_ (by unfold maxLen; omega) (by omega) hbase ?_
  · intro z hz
    obtain ⟨b, _, rfl⟩ := List.mem_map.1 hz
    rfl
  intro v' w' h1 h2 _ h4
  refine h v' w' ?_ h2 h4
  unfold OwnS
  rw [svs_append, List.length_append]
  exact h1

def keptB (x : ByteArray) : Bool := !x.toList.isEmpty
def InT (w1 : World) (g : Nat) (p ls : List ByteArray) (l i : Value) (wr : World) : Prop := ∃ j : Nat, i = .int .i64 j ∧ j ≤ ls.length ∧ OwnS wr w1.heap.size l (p ++ (ls.take j).filter keptB) ∧ Below w1.heap.size w1 wr ∧ (∀ q, l.ownBlock = some q → q ≠ g) ∧ (∀ (q : Nat) (x : ByteArray), ls[q]? = some x → wr.cell? ⟨g, q, none⟩ = some (.string x)) ∧ g < wr.heap.size
theorem keep_snoc {ls : List ByteArray} {j : Nat} {x : ByteArray} (h : ls[j]? = some x) : (ls.take (j + 1)).filter keptB = (ls.take j).filter keptB ++ (if keptB x then [x] else []) := by
  obtain ⟨hj, rfl⟩ := List.getElem?_eq_some_iff.1 h
  rw [List.take_succ_eq_append_getElem hj, List.filter_append]
  cases hk : keptB ls[j] <;> simp [hk]
theorem keep_len (ls : List ByteArray) (j : Nat) : ((ls.take j).filter keptB).length ≤ ls.length := by
  have h1 := List.length_filter_le keptB (ls.take j)
  have h2 : (ls.take j).length ≤ ls.length := by rw [List.length_take]; omega
  omega
set_option maxHeartbeats 2000000 in
theorem TokensOf_any (s : ByteArray) (hs : s.size ≤ 1000000000) (w : World) (hm : Mx w) (hmb : 0 < w.heap.size) : Calls Tryz.prog 31 #[.string s] w (RowNew (WM.toks s) w) := by
  have hpw := WM.pieces_wt 10 s
  have hkl := fun k (h : k ≤ (WM.pieces 10 s).length) => WM.toksK_le s h
  have hpl : ∀ (k : Nat) (x : ByteArray), (WM.pieces 10 s)[k]? = some x → x.size ≤ 1000000000 := fun k x hx => by
    have h1 := WM.wt_take (WM.pieces 10 s) (k + 1)
    have hk := (List.getElem?_eq_some_iff.1 hx).1
    rw [List.take_succ_eq_append_getElem hk, WM.wt_append] at h1
    have : (WM.pieces 10 s)[k] = x := (List.getElem?_eq_some_iff.1 hx).2
    rw [this] at h1
    simp only [WM.wt] at h1
    omega
  have hS := fun W hm => Split_any 10 s (by omega) W hm
  unfold WM.toks
  generalize WM.pieces 10 s = ls at *
  have HK := Lib.hid hkl
  have HPL := Lib.hid hpl
  have HLL := Lib.hid (show ls.length ≤ 1000000001 by have := WM.wt_len ls; omega)
  have HM := Lib.hid (And.intro hm hmb)
  clear hkl hpl hpw hm hmb
  go_enter Tryz.func31, Tryz.ntmps31
  go_wp2_with fail
  refine (hS _ HM.out.1).mono ?_
  rintro e w1 ⟨g, rfl, hg1, hg2, hcs, hb1⟩
  clear hS
  have HM1 := Lib.hid (And.intro (HM.out.1.below hb1 HM.out.2) (Nat.lt_of_lt_of_le HM.out.2 hb1.size))
  clear HM
  go_wp2_with fail
  go_loopw [3, 11] (fun l i wr => TkRel w1 ls l i wr) (fun _ i _ => ls.length - (intOf i).toNat)
  case atStart => exact ⟨0, rfl, Nat.zero_le _, OwnS.nil _ _, Below.refl _ _⟩
  case round =>
    obtain ⟨k, rfl, hk, hown, hbw⟩ := hrel
    obtain ⟨wo, rfl⟩ : ∃ wo : World, wo = wr := ⟨_, rfl⟩
    have hsz := hbw.size
    have hll := HLL.out
    by_cases hlt : k < ls.length
    · have hx := List.getElem?_eq_getElem hlt
      generalize ls[k] = x at hx
      have hd1 := (hbw.cell (p := ⟨g, k, none⟩) hg2).trans (hcs k x hx)
      have HT := Lib.hid (show WM.toksK ls (k + 1) = WM.toksK ls k ++ (if 0 < k then [WM.nl] else []) ++ (WM.pieces 32 x).filter keptB by simp [WM.toksK, hx]; rfl)
      have HH := Lib.hid (And.intro hown hbw)
      have HX := Lib.hid (HPL.out k x hx)
      have HS2 := fun W hm => Split_any 32 x (by have := HX.out; omega) W hm
      have hpx := WM.pieces_wt 32 x
      have hpl2 := WM.wt_len (WM.pieces 32 x)
      generalize WM.pieces 32 x = ls2 at *
      have HL2 := Lib.hid (show ls2.length ≤ 1000000001 by have := HX.out; omega)
      have HN := Lib.hid (HK.out k (by omega))
      have hss : s.size ≤ 1000000000 := hs
      have HP := Lib.hid (show (WM.toksK ls k ++ if 0 < k then [WM.nl] else []).length ≤ 1000000000000 by have := HN.out; split <;> simp <;> omega)
      have hl2 := HL2.out
      clear hx hown hbw hcs hpx hpl2
      by_cases h0 : 0 < k
      · have HL1 := Lib.hid (show (WM.toksK ls k).length + 1 ≤ 4000000000000 by have := HN.out; omega)
        have HP' := Lib.hid (show (WM.toksK ls k ++ [WM.nl]).length ≤ 1000000000000 by have := HP.out; rwa [if_pos h0] at this)
        have HU := Lib.hid (show WM.toksK ls (k + 1) = WM.toksK ls k ++ [WM.nl] ++ ls2.filter keptB by rw [HT.out, if_pos h0])
        clear HT HN HP hs hss
        go_wp2_with (at_builtin; refine app_strs _ rfl (.tmp 18) (.tmp 19) rfl w1.heap.size _ _ rfl (HH.out.1.alloc _) _ 1 [WM.nl] rfl ?_ rfl (lits_cells _ [WM.nl] _) ?d1 ?d2; intro v2 w2 hown2 hg2')
        case d1 => exact HL1.out
        case d2 => simp; omega
        have hb2 : Below w1.heap.size w1 w2 := (HH.out.2.alloc hsz _).grown hg2' (by simp; omega) (fun j hj => HH.out.1.base_le j hj)
        have HQ := Lib.hid (And.intro hown2 hb2)
        have hsz2 := hb2.size
        clear hown2 hb2 hg2'
        generalize WM.toksK ls k ++ [WM.nl] = p at *
        go_wp2_with fail
        refine (HS2 _ (HM1.out.1.below HQ.out.2 HM1.out.2)).mono ?_
        rintro e w3 ⟨g2, rfl, hgf1, hgf2, hcf, hb3⟩
        clear HS2
        have hb3s := hb3.size
        have HO := Lib.hid (And.intro (HQ.out.1.below hb3 (Nat.le_refl _)) (And.intro hcf (HQ.out.2.trans (hb3.mono hsz2))))
        have HB := Lib.hid (fun q hq => (Nat.ne_of_lt (Nat.lt_of_lt_of_le (HQ.out.1.lt q hq) hgf1) : q ≠ g2))
        clear hcf hb3 HQ
        go_wp2_with fail
        go_loopw [3, 24] (fun l i wr => InT w1 g2 p ls2 l i wr) (fun _ i _ => ls2.length - (intOf i).toNat)
        case atStart => exact ⟨0, rfl, Nat.zero_le _, by rw [List.take_zero, List.filter_nil, List.append_nil]; exact HO.out.1, HO.out.2.2, HB.out, HO.out.2.1, hgf2⟩
        case round =>
          obtain ⟨j, rfl, hj, hown, hbw2, hne, hc2, hg2l⟩ := hrel
          have hsz4 := hbw2.size
          by_cases hjl : j < ls2.length
          · have hy := List.getElem?_eq_getElem hjl
            generalize ls2[j] = y at hy
            have hcy := hc2 j y hy
            have HK2 := Lib.hid (keep_snoc hy)
            have HR := Lib.hid (And.intro hown (And.intro hbw2 (And.intro hne hc2)))
            have HL3 := Lib.hid (show (p ++ (ls2.take j).filter keptB).length + 1 ≤ 4000000000000 by have := keep_len ls2 j; have := HP'.out; simp; omega)
            clear hy hown hbw2 hne hc2 HO HB
            by_cases hyn : y.toList = []
            · have hye : y.toList.isEmpty = true := by rw [hyn]; rfl
              have HE := Lib.hid (show keptB y = false by unfold keptB; rw [hye]; rfl)
              go_wp2_with fail
              exact ⟨⟨j + 1, by simp, by omega, by rw [HK2.out, HE.out]; simpa using HR.out.1, HR.out.2.1, HR.out.2.2.1, HR.out.2.2.2, hg2l⟩, by simp [intOf]; omega⟩
            · have hye : y.toList.isEmpty = false := by simpa using hyn
              have HE := Lib.hid (show keptB y = true by unfold keptB; rw [hye]; rfl)
              go_wp2_with (at_builtin; refine app_str_at _ rfl (.tmp 30) (.tmp 32) rfl w1.heap.size _ _ rfl (HR.out.1.alloc _) _ y rfl ?_ (lits_cells _ [y] _) HL3.out ?d7; intro v5 w5 hown5 hg5 hat5)
              case d7 => simp; omega
              have hgs := hg5.size
              go_wp2_with fail
              refine ⟨⟨j + 1, by simp, by omega, by rw [HK2.out, HE.out, if_pos rfl, ← List.append_assoc]; exact hown5, (HR.out.2.1.alloc hsz4 _).grown hg5 (by simp; omega) (fun q hq => HR.out.1.base_le q hq), fun q hq => ?_, fun q x hx => ?_, ?_⟩, by simp [intOf]; omega⟩
              · rcases hat5 with h | h
                · exact HR.out.2.2.1 q (h ▸ hq)
                · rw [h] at hq; injection hq with hq; simp at hq; omega
              · refine hg5.cell ((World.cell?_of_block (a := ⟨g2, q, none⟩) (Below.heap_alloc _ _ g2 hg2l)).trans (HR.out.2.2.2 q x hx)) (fun e => HR.out.2.2.1 g2 e.symm rfl)
              · simp at hgs; omega
          · obtain rfl : j = ls2.length := by omega
            have HR := Lib.hid (And.intro hown hbw2)
            clear hown hbw2 hne hc2 HO HB
            go_wp2_with fail
            exact ⟨⟨k + 1, by simp, by omega, by rw [HU.out]; have := HR.out.1; rwa [List.take_of_length_le (Nat.le_refl _)] at this, HR.out.2⟩, by simp [intOf]; omega⟩
      · have HP' := Lib.hid (show (WM.toksK ls k).length ≤ 1000000000000 by have := HN.out; omega)
        have HU := Lib.hid (show WM.toksK ls (k + 1) = WM.toksK ls k ++ ls2.filter keptB by rw [HT.out, if_neg h0, List.append_nil])
        have HQ := HH
        have hsz2 := hsz
        clear HT HN HP hs hss HH
        generalize WM.toksK ls k = p at *
        go_wp2_with fail
        refine (HS2 _ (HM1.out.1.below HQ.out.2 HM1.out.2)).mono ?_
        rintro e w3 ⟨g2, rfl, hgf1, hgf2, hcf, hb3⟩
        clear HS2
        have hb3s := hb3.size
        have HO := Lib.hid (And.intro (HQ.out.1.below hb3 (Nat.le_refl _)) (And.intro hcf (HQ.out.2.trans (hb3.mono hsz2))))
        have HB := Lib.hid (fun q hq => (Nat.ne_of_lt (Nat.lt_of_lt_of_le (HQ.out.1.lt q hq) hgf1) : q ≠ g2))
        clear hcf hb3 HQ
        go_wp2_with fail
        go_loopw [3, 24] (fun l i wr => InT w1 g2 p ls2 l i wr) (fun _ i _ => ls2.length - (intOf i).toNat)
        case atStart => exact ⟨0, rfl, Nat.zero_le _, by rw [List.take_zero, List.filter_nil, List.append_nil]; exact HO.out.1, HO.out.2.2, HB.out, HO.out.2.1, hgf2⟩
        case round =>
          obtain ⟨j, rfl, hj, hown, hbw2, hne, hc2, hg2l⟩ := hrel
          have hsz4 := hbw2.size
          by_cases hjl : j < ls2.length
          · have hy := List.getElem?_eq_getElem hjl
            generalize ls2[j] = y at hy
            have hcy := hc2 j y hy
            have HK2 := Lib.hid (keep_snoc hy)
            have HR := Lib.hid (And.intro hown (And.intro hbw2 (And.intro hne hc2)))
            have HL3 := Lib.hid (show (p ++ (ls2.take j).filter keptB).length + 1 ≤ 4000000000000 by have := keep_len ls2 j; have := HP'.out; simp; omega)
            clear hy hown hbw2 hne hc2 HO HB
            by_cases hyn : y.toList = []
            · have hye : y.toList.isEmpty = true := by rw [hyn]; rfl
              have HE := Lib.hid (show keptB y = false by unfold keptB; rw [hye]; rfl)
              go_wp2_with fail
              exact ⟨⟨j + 1, by simp, by omega, by rw [HK2.out, HE.out]; simpa using HR.out.1, HR.out.2.1, HR.out.2.2.1, HR.out.2.2.2, hg2l⟩, by simp [intOf]; omega⟩
            · have hye : y.toList.isEmpty = false := by simpa using hyn
              have HE := Lib.hid (show keptB y = true by unfold keptB; rw [hye]; rfl)
              go_wp2_with (at_builtin; refine app_str_at _ rfl (.tmp 30) (.tmp 32) rfl w1.heap.size _ _ rfl (HR.out.1.alloc _) _ y rfl ?_ (lits_cells _ [y] _) HL3.out ?d7; intro v5 w5 hown5 hg5 hat5)
              case d7 => simp; omega
              have hgs := hg5.size
              go_wp2_with fail
              refine ⟨⟨j + 1, by simp, by omega, by rw [HK2.out, HE.out, if_pos rfl, ← List.append_assoc]; exact hown5, (HR.out.2.1.alloc hsz4 _).grown hg5 (by simp; omega) (fun q hq => HR.out.1.base_le q hq), fun q hq => ?_, fun q x hx => ?_, ?_⟩, by simp [intOf]; omega⟩
              · rcases hat5 with h | h
                · exact HR.out.2.2.1 q (h ▸ hq)
                · rw [h] at hq; injection hq with hq; simp at hq; omega
              · refine hg5.cell ((World.cell?_of_block (a := ⟨g2, q, none⟩) (Below.heap_alloc _ _ g2 hg2l)).trans (HR.out.2.2.2 q x hx)) (fun e => HR.out.2.2.1 g2 e.symm rfl)
              · simp at hgs; omega
          · obtain rfl : j = ls2.length := by omega
            have HR := Lib.hid (And.intro hown hbw2)
            clear hown hbw2 hne hc2 HO HB
            go_wp2_with fail
            exact ⟨⟨k + 1, by simp, by omega, by rw [HU.out]; have := HR.out.1; rwa [List.take_of_length_le (Nat.le_refl _)] at this, HR.out.2⟩, by simp [intOf]; omega⟩
    · obtain rfl : k = ls.length := by omega
      go_wp2_with fail
      go_ret
      exact ⟨_, rfl, hown.less hb1.size, hb1.trans (hbw.mono hb1.size)⟩
end Go.Proofs.YtndeifdpiimbeaaGreatDoor
