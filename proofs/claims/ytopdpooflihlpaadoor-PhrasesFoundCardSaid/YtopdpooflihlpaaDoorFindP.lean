/- Contracts of privilege.Find. -/
import Derived.Test.YtopdpooflihlpaaDoorEach
import Derived.Test.YtopdpooflihlpaaDoorTog
import Derived.Test.YtopdpooflihlpaaDoorRowS0
namespace TB
/-- a phrase that is none -/
def badP (p : ByteArray) : Bool := decide (p.size < 1) || decide (200 < p.size)
/-- what is wrong with a text and phrases -/
def phCode (t : ByteArray) (P : List ByteArray) : Int := if bodyC t = 0 then (if 200 < P.length then 2 else if P.any badP then 3 else 0) else bodyC t
theorem small_sz (p : ByteArray) : (WM.small p).size = p.size := by
  show (p.data.map WM.smallB).size = p.data.size
  simp
end TB
namespace Go.Proofs.YtopdpooflihlpaaDoor
open Go.RowKit

/-- the phrases in small letters -/
def lowQ (P : List ByteArray) : List (List UInt8) := P.map fun p => bs (WM.small p)
theorem str_nil {x : ByteArray} (h : x.size < 1) : (x.toList == []) = true := by
  have e : x.data.toList.length = x.size := by simp
  have : x.data.toList = [] := List.eq_nil_of_length_eq_zero (by omega)
  rw [Lib.toList_data, this]
  rfl
theorem str_cons {x : ByteArray} (h : ¬ x.size < 1) : (x.toList == []) = false := by
  have e : x.data.toList.length = x.size := by simp
  rw [Lib.toList_data]
  cases h2 : x.data.toList
  · rw [h2] at e; simp at e; omega
  · rfl
def FdRel (w : World) (t : ByteArray) (P : List ByteArray) (ge be : Nat) (i : Value) (wr : World) : Prop := ∃ (k : Nat) (f : Nat → Nat), i = .int .i64 k ∧ k ≤ P.length ∧ Hid (Ends wr ge t.size f) ∧ Hid (∀ j, j < t.size → WM.EndsOf (bs (WM.small t)) (lowQ (P.take k)) j (f j)) ∧ Hid (Below w.heap.size w wr) ∧ Hid (wr.cell? ⟨be, 0, none⟩ = some (.slice (some ⟨ge, 0, none⟩) t.size t.size) ∧ be < wr.heap.size)
def F3Rel (w : World) (f : Nat → Nat) (n : Nat) (l i : Value) (wr : World) : Prop := ∃ (k : Nat) (S : List (Int × Int)), i = .int .i64 k ∧ k ≤ n ∧ Hid (WM.Rise f k S) ∧ OwnI wr w.heap.size l S ∧ Below w.heap.size w wr
theorem below_onlyF {B : Nat} {a w w' : World} {g : Nat} (h : Below B a w) (hg : w.grownBy w' (some g)) (hB : B ≤ w.heap.size) (hgB : B ≤ g) : Below B a w' := h.grown hg hB (fun k hk => by injection hk with hk; omega)
theorem lowQ_snoc {P : List ByteArray} {k : Nat} {x : ByteArray} (h : P[k]? = some x) : lowQ (P.take (k + 1)) = lowQ (P.take k) ++ [bs (WM.small x)] := by
  obtain ⟨hk, rfl⟩ := List.getElem?_eq_some_iff.1 h
  unfold lowQ
  rw [List.take_succ_eq_append_getElem hk, List.map_append]
  rfl
set_option maxHeartbeats 4000000 in
theorem Find_bad {w : World} {b : Nat} {v : Value} {t : ByteArray} {P : List ByteArray} (h : OwnS w b v P) (hT : LibV w) (ht : t.size ≤ 1000000) (c : Int) (hc : TB.phCode t P = c) (h0 : c ≠ 0) :
    Calls Tryd.prog 8 #[.string t, v] w (SpSays [] c w) := by
  have hB := CheckBody_any t (by omega) w hT
  by_cases hb : TB.bodyC t = 0
  · rw [hb] at hB
    have hlen := h.len_le
    obtain ⟨A, cap, rfl, hf⟩ := h.form
    by_cases hl : 200 < P.length
    · obtain rfl : c = 2 := by rw [← hc]; unfold TB.phCode; rw [if_pos hb, if_pos hl]
      clear h hT hb hc h0 hf
      go_enter Tryd.func8, Tryd.ntmps8
      go_wp2_with fail
      refine hB.mono ?_
      rintro e w1 ⟨rfl, hb1⟩
      have HB := Lib.hid hb1
      clear hB hb1
      go_wp2_with fail
      go_ret2
      exact ⟨.slice none 0 0, rfl, OwnI.nil _ _, HB.out⟩
    · have hany : P.any TB.badP = true ∧ c = 3 := by
        unfold TB.phCode at hc
        rw [if_pos hb, if_neg hl] at hc
        cases hx : P.any TB.badP
        · rw [hx] at hc; exact absurd hc.symm h0
        · rw [hx] at hc; exact ⟨rfl, hc.symm⟩
      obtain ⟨hany, rfl⟩ := hany
      have HA := Lib.hid hany
      clear h hT hb hc h0 hany
      go_enter Tryd.func8, Tryd.ntmps8
      go_wp2_with fail
      refine hB.mono ?_
      rintro e w1 ⟨rfl, hb1⟩
      have HB := Lib.hid hb1
      clear hB hb1
      go_wp2_with fail
      go_loop [26] (fun i => ∃ k : Nat, i = .int .i64 k ∧ k ≤ P.length ∧ Hid ((P.take k).any TB.badP = false)) (fun i => P.length - (intOf i).toNat)
      case atStart => exact ⟨0, rfl, Nat.zero_le _, rfl⟩
      case round =>
        obtain ⟨k, rfl, hk, HK⟩ := hrel
        by_cases hlt : k < P.length
        · obtain ⟨g, rfl, hg1, hg2, hcs⟩ := hf (by omega)
          have hx := List.getElem?_eq_getElem hlt
          generalize P[k] = x at hx
          have hd := (HB.out.cell (p := ⟨g, k, none⟩) hg2).trans (hcs k x hx)
          have HX := Lib.hid hx
          clear hx hcs hf
          by_cases h1 : x.size < 1
          · have e1 := str_nil h1
            clear h1
            go_wp2_with fail
            go_ret2
            exact ⟨.slice none 0 0, rfl, OwnI.nil _ _, HB.out⟩
          · have e1 := str_cons h1
            by_cases h2 : 200 < x.size
            · go_wp2_with fail
              go_ret2
              exact ⟨.slice none 0 0, rfl, OwnI.nil _ _, HB.out⟩
            · have HN : Hid ((P.take (k + 1)).any TB.badP = false) := Lib.hid (by
                obtain ⟨hk2, rfl⟩ := List.getElem?_eq_some_iff.1 HX.out
                rw [List.take_succ_eq_append_getElem hk2, List.any_append, HK.out]
                have hb : TB.badP P[k] = false := by unfold TB.badP; rw [decide_eq_false h1, decide_eq_false h2]; rfl
                simp [hb])
              go_wp2_with fail
              exact ⟨⟨k + 1, by simp, by omega, HN⟩, by simp [intOf]; omega⟩
        · exact absurd HA.out (by have := HK.out; rw [List.take_of_length_le (by omega)] at this; rw [this]; decide)
  · obtain rfl : TB.bodyC t = c := by rw [← hc]; unfold TB.phCode; rw [if_neg hb]
    generalize TB.bodyC t = c at *
    have e1 : (c != 0) = true := bne_iff_ne.2 h0
    clear h hT hb hc h0
    go_enter Tryd.func8, Tryd.ntmps8
    go_wp2_with fail
    refine hB.mono ?_
    rintro e w1 ⟨rfl, hb1⟩
    have HB := Lib.hid hb1
    clear hB hb1
    go_wp2_with fail
    go_ret2
    exact ⟨.slice none 0 0, rfl, OwnI.nil _ _, HB.out⟩
set_option maxHeartbeats 16000000 in
set_option maxRecDepth 100000 in
theorem Find_ok {w : World} {b : Nat} {v : Value} {t : ByteArray} {P : List ByteArray} (h : OwnS w b v P) (hT : LibV w) (ht : t.size ≤ 1000000) (hc : TB.phCode t P = 0) :
    Calls Tryd.prog 8 #[.string t, v] w (MixSays (WM.phC (bs (WM.small t)) (lowQ P)) w) := by
  have hB := CheckBody_any t (by omega) w hT
  have hparts : TB.bodyC t = 0 ∧ ¬ 200 < P.length ∧ P.any TB.badP = false := by
    unfold TB.phCode at hc
    by_cases hb : TB.bodyC t = 0
    · rw [if_pos hb] at hc
      by_cases hl : 200 < P.length
      · rw [if_pos hl] at hc; cases hc
      · rw [if_neg hl] at hc
        cases hx : P.any TB.badP
        · exact ⟨hb, hl, rfl⟩
        · rw [hx] at hc; cases hc
    · rw [if_neg hb] at hc; exact absurd hc hb
  obtain ⟨hb, hl, hgood⟩ := hparts
  rw [hb] at hB
  have hgd : ∀ x, x ∈ P → 0 < x.size ∧ x.size ≤ 200 := fun x hx => by
    have h3 : TB.badP x = false := by simpa using List.any_eq_false.1 hgood x hx
    unfold TB.badP at h3
    rw [Bool.or_eq_false_iff] at h3
    have h4 := of_decide_eq_false h3.1
    have h5 := of_decide_eq_false h3.2
    omega
  obtain ⟨A, cap, rfl, hf⟩ := h.form
  have HGD := Lib.hid hgd
  have HTL := Lib.hid hT
  have htop := hT.2.2
  have hmk := run_make_row' (P := Tryd.prog) 22 3 (.int .i64 0) 8 Tryd.underlying22 (by kernel_rfl) rfl .i64 .i64 t.size (by omega) (by omega)
  have hsm := fun (s : ByteArray) (hs : s.size ≤ 1000000000000) (W : World) => Small_any s hs W
  clear h hT hb hc hgood hgd
  go_enter Tryd.func8, Tryd.ntmps8
  go_wp2_with fail
  refine hB.mono ?_
  rintro e w1 ⟨rfl, hb1⟩
  have HB := Lib.hid hb1
  clear hB hb1
  go_wp2_with fail
  go_loop [26] (fun i => ∃ k : Nat, i = .int .i64 k ∧ k ≤ P.length) (fun i => P.length - (intOf i).toNat)
  case atStart => exact ⟨0, rfl, Nat.zero_le _⟩
  case round =>
    obtain ⟨k, rfl, hk⟩ := hrel
    by_cases hlt : k < P.length
    · obtain ⟨g, rfl, hg1, hg2, hcs⟩ := hf (by omega)
      have hx := List.getElem?_eq_getElem hlt
      have hm := HGD.out _ (List.getElem_mem hlt)
      generalize P[k] = x at hx hm
      have hd := (HB.out.cell (p := ⟨g, k, none⟩) hg2).trans (hcs k x hx)
      have e1 := str_cons (show ¬ x.size < 1 by omega)
      have h2 : ¬ 200 < x.size := by omega
      clear hx hcs hf hm hmk hsm
      go_wp2_with fail
      exact ⟨⟨k + 1, by simp, by omega⟩, by simp [intOf]; omega⟩
    · go_wp2_with fail
      refine (hsm t (by omega) _).mono ?_
      rintro e w2 ⟨rfl, hb2⟩
      have HB2 := Lib.hid (HB.out.trans (hb2.mono HB.out.size))
      have hsz2 : w.heap.size ≤ w2.heap.size := HB2.out.size
      have HE0 : Hid (Ends ((w2.alloc (.cells (madeCells #[.int .i64 0] t.size) 3)).alloc (.cells #[.slice (some ⟨w2.heap.size, 0, none⟩) t.size t.size] 22)) w2.heap.size t.size (fun _ => 0)) := Lib.hid (Ends.alloc (World.rowIs_made w2 _ t.size _) _)
      have HW0 := Lib.hid ((HB2.out.alloc hsz2 (.cells (madeCells #[.int .i64 0] t.size) 3)).alloc (by simp; omega) (.cells #[.slice (some ⟨w2.heap.size, 0, none⟩) t.size t.size] 22))
      have HC0 : Hid (((w2.alloc (.cells (madeCells #[.int .i64 0] t.size) 3)).alloc (.cells #[.slice (some ⟨w2.heap.size, 0, none⟩) t.size t.size] 22)).cell? ⟨w2.heap.size + 1, 0, none⟩ = some (.slice (some ⟨w2.heap.size, 0, none⟩) t.size t.size)) := Lib.hid (by
        rw [show w2.heap.size + 1 = (w2.alloc (.cells (madeCells #[.int .i64 0] t.size) 3)).heap.size from by simp, cell_of_row _ _ 0 _ _ _ (heap_alloc_new _ _)]
        simp)
      clear hb2
      go_wp2_with fail
      go_loopw [45] (fun i wr => FdRel w t P w2.heap.size (w2.heap.size + 1) i wr) (fun i _ => P.length - (intOf i).toNat)
      case atStart => exact ⟨0, fun _ => 0, rfl, Nat.zero_le _, HE0, Lib.hid (fun j _ => WM.EndsOf.start _ _), HW0, Lib.hid ⟨HC0.out, by simp⟩⟩
      case round =>
        obtain ⟨k, f, rfl, hk, HE, HF, HW, HC⟩ := hrel
        clear HE0 HW0 HC0
        have hszr := HW.out.size
        have hcbe := HC.out.1
        by_cases hlt : k < P.length
        · obtain ⟨g, rfl, hg1, hg2, hcs⟩ := hf (by omega)
          have hx := List.getElem?_eq_getElem hlt
          have hm := HGD.out _ (List.getElem_mem hlt)
          generalize P[k] = x at hx hm
          have hd := (HW.out.cell (p := ⟨g, k, none⟩) hg2).trans (hcs k x hx)
          have hnew : (wr.alloc (.cells #[.string x] 9)).cell? ⟨wr.heap.size, 0, none⟩ = some (.string x) := by rw [cell_of_row _ _ 0 _ _ _ (heap_alloc_new wr _)]; rfl
          have HX := Lib.hid (And.intro hx hm)
          clear hx hcs hf hm hmk
          go_wp2_with fail
          refine (hsm x (by have := HX.out.2; omega) _).mono ?_
          rintro e w3 ⟨rfl, hb3⟩
          have hb3' : Below wr.heap.size wr w3 := ((Below.refl wr.heap.size wr).alloc (Nat.le_refl _) _).trans (hb3.mono (by simp))
          have hbox : Blk w3 wr.heap.size 9 #[.string x] := (Blk.new wr 9 #[.string x]).below hb3 (by simp)
          have hfz := hbox.frozen 0
          have hc3 := hbox.cell 0
          simp at hc3
          have hset := hbox.set_ 0 (.string (WM.small x))
          have hst : (w3.setCell ⟨wr.heap.size, 0, none⟩ (.string (WM.small x))).cell? ⟨wr.heap.size, 0, none⟩ = some (.string (WM.small x)) := by rw [hset.cell 0]; rfl
          have hbw : Below wr.heap.size wr (w3.setCell ⟨wr.heap.size, 0, none⟩ (.string (WM.small x))) := below_setI hb3' (Nat.le_refl _) _
          have hge : w2.heap.size < wr.heap.size := HE.out.lt
          have hbelt := HC.out.2
          have hEP := eachPlace_any (t := WM.small t) (p := WM.small x) (be := w2.heap.size + 1) (bp := wr.heap.size) (f := f) (ge := w2.heap.size)
            (by rw [TB.small_sz]; exact HE.out.below hbw hge) (by rw [TB.small_sz]; exact (hbw.cell (p := ⟨w2.heap.size + 1, 0, none⟩) hbelt).trans hcbe) hst (by omega) (by omega) (Nat.lt_of_lt_of_le hbelt hbw.size) (by have := hbox.lt; simpa [World.setCell] using this)
            ((HTL.out.below (HW.out.trans (hbw.mono HW.out.size)) htop)) (by omega) (by rw [TB.small_sz]; exact ht) (by rw [TB.small_sz]; exact HX.out.2.1) (by rw [TB.small_sz]; have := HX.out.2; omega)
          have HEP := Lib.hid hEP
          have HBW := Lib.hid (And.intro (HW.out.trans (hbw.mono HW.out.size)) (And.intro ((hbw.cell (p := ⟨w2.heap.size + 1, 0, none⟩) hbelt).trans hcbe) (Nat.lt_of_lt_of_le hbelt hbw.size)))
          have hst2 := hst
          clear hb3 hb3' hbox hset hbw hEP hsm hnew
          go_wp2_with fail
          refine HEP.out.mono ?_
          rintro e w4 ⟨rfl, hE4, hg4⟩
          rw [TB.small_sz] at hE4
          have HE4 := Lib.hid hE4
          have HB4 := Lib.hid (below_onlyF HBW.out.1 hg4 HBW.out.1.size hsz2)
          have hc4 : w4.cell? ⟨w2.heap.size + 1, 0, none⟩ = some (.slice (some ⟨w2.heap.size, 0, none⟩) t.size t.size) := (World.cell?_of_block (a := ⟨w2.heap.size + 1, 0, none⟩) (hg4.block _ HBW.out.2.2 (fun e => absurd (Option.some.inj e) (by show w2.heap.size + 1 ≠ w2.heap.size; omega)))).trans HBW.out.2.1
          have HC4 := Lib.hid (And.intro hc4 (Nat.lt_of_lt_of_le HBW.out.2.2 hg4.size))
          have HF4 : Hid (∀ j, j < t.size → WM.EndsOf (bs (WM.small t)) (lowQ (P.take (k + 1))) j (if WM.occ (bs (WM.small t)) (bs (WM.small x)) j = true then max (f j) (j + (WM.small x).size) else f j)) := Lib.hid fun j hj => by
            rw [lowQ_snoc HX.out.1, ← bs_len]
            by_cases ho : WM.occ (bs (WM.small t)) (bs (WM.small x)) j = true
            · rw [if_pos ho]; exact (HF.out j hj).hit ho
            · rw [if_neg ho]; exact (HF.out j hj).miss (by simpa using ho)
          clear hE4 hg4 hc4 hst hst2 hd hc3 hfz
          go_wp2_with fail
          exact ⟨⟨k + 1, _, by simp, by omega, HE4, HF4, HB4, HC4⟩, by simp [intOf]; omega⟩
        · obtain rfl : k = P.length := by omega
          have HF2 : Hid (∀ j, j < t.size → WM.EndsOf (bs (WM.small t)) (lowQ P) j (f j)) := Lib.hid (by have := HF.out; rwa [List.take_length] at this)
          have hge : w2.heap.size < wr.heap.size := HE.out.lt
          clear hf hmk hsm HF
          go_wp2_with fail
          obtain ⟨wo, rfl⟩ : ∃ wo : World, wo = wr := ⟨_, rfl⟩
          go_loopw [13, 58] (fun l i wr3 => F3Rel wo f t.size l i wr3) (fun _ i _ => t.size - (intOf i).toNat)
          case atStart => exact ⟨0, [], rfl, Nat.zero_le _, Lib.hid (WM.Rise.start f), OwnI.nil _ _, Below.refl _ _⟩
          case round =>
            obtain ⟨j, S, rfl, hj, HR, ho, hb3⟩ := hrel
            have hszs := hb3.size
            obtain ⟨A3, c3, rfl, -, -⟩ := ho.form
            by_cases hlj : j < t.size
            · have hd := (HE.out.below hb3 hge).cell hlj
              have HO := Lib.hid (And.intro ho hb3)
              obtain ⟨x, hx⟩ : ∃ x, f j = x := ⟨_, rfl⟩
              rw [hx] at hd
              by_cases hx0 : x = 0
              · have HN := Lib.hid (HR.out.no (by omega))
                subst hx0
                clear ho hb3 hx
                go_wp2_with fail
                exact ⟨⟨j + 1, S, by simp, by omega, HN, HO.out.1, HO.out.2⟩, by simp [intOf]; omega⟩
              · have HN := Lib.hid (HR.out.yes (by omega))
                rw [hx] at HN
                have hx1 : 0 < (x : Int) := by omega
                have HSL := Lib.hid (show S.length ≤ 1000000000000 by have := HR.out.len; omega)
                clear ho hb3 hx hx0
                go_wp2_with (at_builtin; refine app_sp _ rfl (.tmp 65) (.tmp 69) rfl wo.heap.size _ S rfl (HO.out.1.alloc _) _ j x rfl ?_ (lits_sp _ j x _) HSL.out ?d2; intro v4 w4 ho4 hg4; have HO4 := Lib.hid (And.intro ho4 hg4); clear ho4 hg4)
                case d2 => first | omega | (simp; omega)
                exact ⟨⟨j + 1, _, by simp, by omega, HN, HO4.out.1, below_grownI (HO.out.2.alloc hszs _) (HO.out.1.alloc _) HO4.out.2 (by simp; omega)⟩, by simp [intOf]; omega⟩
            · obtain rfl : j = t.size := by omega
              have hne := WM.rise_ne HR.out (fun q hq => by
                obtain ⟨p, hp, rfl⟩ := List.mem_map.1 hq
                rw [bs_len, TB.small_sz]; exact (HGD.out p hp).1) HF2.out
              have hTg := together_any ho hne HR.out.ord (by have := HR.out.len; omega)
              have HTg := Lib.hid hTg
              have HB3 := Lib.hid (HW.out.trans (hb3.mono HW.out.size))
              clear ho hb3 hne hTg
              go_wp2_with fail
              refine HTg.out.mono ?_
              rintro e w5 ⟨M, hM, v5, rfl, ho5, hb5⟩
              have hBn := bounded_any ho5
              have HM := Lib.hid hM
              have HB5 := Lib.hid (HB3.out.trans (hb5.mono HB3.out.size))
              clear ho5 hb5 hM
              go_wp2_with fail
              refine hBn.mono ?_
              rintro e w6 ⟨v6, rfl, ho6, rfl⟩
              have HO6 := Lib.hid ho6
              clear hBn ho6
              go_wp2_with fail
              go_ret2
              exact ⟨M, HM.out.sep, fun i => (HM.out.cov i).trans (WM.rise_cov HR.out (by rw [bs_len, TB.small_sz]) (fun q hq => by
                obtain ⟨p, hp, rfl⟩ := List.mem_map.1 hq
                rw [bs_len, TB.small_sz]; exact (HGD.out p hp).1) HF2.out i), v6, rfl, HO6.out.less HB3.out.size, HB5.out⟩
end Go.Proofs.YtopdpooflihlpaaDoor
