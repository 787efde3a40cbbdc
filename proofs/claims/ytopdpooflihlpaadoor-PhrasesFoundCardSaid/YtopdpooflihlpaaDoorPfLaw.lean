/- The law PhrasesFound. -/
import Derived.Test.YtopdpooflihlpaaDoorFindOf
import Derived.Test.YtopdpooflihlpaaDoorMemo
import Derived.Test.YtopdpooflihlpaaDoorEqualI
import Derived.Test.YtopdpooflihlpaaDoorPriv
import Derived.Test.YtopdpooflihlpaaDoorInts
import Derived.Test.YtopdpooflihlpaaDoorCanon
namespace TB
theorem phCode_ok {t : ByteArray} {P : List ByteArray} (hc : phCode t P = 0) : ∀ x, x ∈ P → 0 < x.size ∧ x.size ≤ 200 := fun x hx => by
  have hgood : P.any badP = false := by
    unfold phCode at hc
    by_cases hb : bodyC t = 0
    · rw [if_pos hb] at hc
      by_cases hl : 200 < P.length
      · rw [if_pos hl] at hc; cases hc
      · rw [if_neg hl] at hc
        cases hx : P.any badP
        · rfl
        · rw [hx] at hc; cases hc
    · rw [if_neg hb] at hc; exact absurd hc hb
  have h3 : badP x = false := by simpa using List.any_eq_false.1 hgood x hx
  unfold badP at h3
  rw [Bool.or_eq_false_iff] at h3
  have h4 := of_decide_eq_false h3.1
  have h5 := of_decide_eq_false h3.2
  omega
end TB
namespace Go.Proofs.YtopdpooflihlpaaDoor
open Go.RowKit

theorem bad_any (p : ByteArray) (w : World) : Calls Tryd.prog 24 #[.string p] w fun e w' => e = .returned (.bool (TB.badP p)) ∧ w = w' := by
  have HE : Hid ((decide ((p.size : Int) < 1) || decide (200 < (p.size : Int))) = TB.badP p) := Lib.hid (by
    unfold TB.badP
    by_cases h1 : p.size < 1
    · rw [decide_eq_true h1, decide_eq_true (show (p.size : Int) < 1 by omega)]; rfl
    · rw [decide_eq_false h1, decide_eq_false (show ¬ (p.size : Int) < 1 by omega), Bool.false_or, Bool.false_or]
      by_cases h2 : 200 < p.size
      · rw [decide_eq_true h2, decide_eq_true (show 200 < (p.size : Int) by omega)]
      · rw [decide_eq_false h2, decide_eq_false (show ¬ 200 < (p.size : Int) by omega)])
  rw [← HE.out]
  by_cases h1 : p.size < 1
  · have q1 : decide ((p.size : Int) < 1) = true := decide_eq_true (by omega)
    rw [q1]
    clear h1
    go_enter Tryd.func24, Tryd.ntmps24
    go_wp2_with fail
    go_ret
    exact ⟨rfl, rfl⟩
  · have q1 : decide ((p.size : Int) < 1) = false := decide_eq_false (by omega)
    rw [q1]
    clear h1
    go_enter Tryd.func24, Tryd.ntmps24
    go_wp2_with fail
    go_ret
    exact ⟨rfl, rfl⟩
def IfSays (b : Bool) (w : World) (e : Ending) (w' : World) : Prop := ∃ z : Int, e = .returned (.int .i64 z) ∧ decide (0 ≤ z) = b ∧ w = w'
set_option maxHeartbeats 1000000 in
theorem IndexFuncS_any {w : World} {b : Nat} {v : Value} {P : List ByteArray} (h : OwnS w b v P) : Calls Tryd.prog 38 #[v, .func (.func 24) #[] #[]] w (IfSays (P.any TB.badP) w) := by
  have hlen := h.len_le
  obtain ⟨A, cap, rfl, hf⟩ := h.form
  have eg := enters_of Tryd.func24 (by kernel_rfl) rfl
  clear h
  go_enter Tryd.func38, Tryd.ntmps38
  go_wp2_with fail
  go_loop [8] (fun i => ∃ k : Nat, i = .int .i64 k ∧ k ≤ P.length ∧ Hid ((P.take k).any TB.badP = false)) (fun i => P.length - (intOf i).toNat)
  case atStart => exact ⟨0, rfl, Nat.zero_le _, rfl⟩
  case round =>
    obtain ⟨k, rfl, hk, HK⟩ := hrel
    by_cases hlt : k < P.length
    · obtain ⟨g, rfl, hg1, hg2, hcs⟩ := hf (by omega)
      have hx := List.getElem?_eq_getElem hlt
      have hmem := List.getElem_mem hlt
      generalize P[k] = x at hx hmem
      have hd := hcs k x hx
      have hB := fun W => bad_any x W
      cases hbx : TB.badP x
      · have HN : Hid ((P.take (k + 1)).any TB.badP = false) := Lib.hid (by
          obtain ⟨hk2, rfl⟩ := List.getElem?_eq_some_iff.1 hx
          rw [List.take_succ_eq_append_getElem hk2, List.any_append, HK.out]
          simp [hbx])
        rw [hbx] at hB
        clear hx hcs hf hmem hbx
        go_wp2_with fail
        refine (hB _).mono ?_
        rintro e w' ⟨rfl, rfl⟩
        clear hB
        go_wp2_with fail
        exact ⟨⟨k + 1, by simp, by omega, HN⟩, by simp [intOf]; omega⟩
      · have HN : Hid (P.any TB.badP = true) := Lib.hid (List.any_eq_true.2 ⟨x, hmem, hbx⟩)
        rw [hbx] at hB
        clear hx hcs hf hmem hbx
        go_wp2_with fail
        refine (hB _).mono ?_
        rintro e w' ⟨rfl, rfl⟩
        clear hB
        go_wp2_with fail
        go_ret
        exact ⟨k, rfl, by rw [HN.out]; exact decide_eq_true (by omega), rfl⟩
    · have HN : Hid (P.any TB.badP = false) := Lib.hid (by have := HK.out; rwa [List.take_of_length_le (by omega)] at this)
      clear hf
      go_wp2_with fail
      go_ret
      exact ⟨-1, rfl, by rw [HN.out]; rfl, rfl⟩
theorem ContainsFuncS_any {w : World} {b : Nat} {v : Value} {P : List ByteArray} (h : OwnS w b v P) (c : Bool) (hc : P.any TB.badP = c) : Calls Tryd.prog 23 #[v, .func (.func 24) #[] #[]] w fun e w' => e = .returned (.bool c) ∧ w = w' := by
  have hI := IndexFuncS_any h
  rw [hc] at hI
  clear h hc
  go_enter Tryd.func23, Tryd.ntmps23
  go_wp2_with fail
  refine hI.mono ?_
  rintro e w' ⟨z, rfl, hz, rfl⟩
  clear hI
  go_wp2_with fail
  go_ret
  exact ⟨by first | rw [hz] | (rw [← hz]; rfl), rfl⟩
set_option maxHeartbeats 1000000 in
theorem PhrasesFault_any {w : World} {b : Nat} {v : Value} {t : ByteArray} {P : List ByteArray} (h : OwnS w b v P) (hT : LibV w) (ht : t.size ≤ 1000000) (c : Int) (hc : TB.phCode t P = c) :
    Calls Tryd.prog 9 #[.string t, v] w (SaysM c w) := by
  have hB := BodyFault_any t (by omega) w hT
  by_cases hb : TB.bodyC t = 0
  · rw [hb] at hB
    have hlen := h.len_le
    by_cases hl : 200 < P.length
    · obtain rfl : c = 2 := by rw [← hc]; unfold TB.phCode; rw [if_pos hb, if_pos hl]
      obtain ⟨A, cap, rfl, hf⟩ := h.form
      clear h hT hb hc hf
      go_enter Tryd.func9, Tryd.ntmps9
      go_wp2_with fail
      refine hB.mono ?_
      rintro e w1 ⟨rfl, hb1⟩
      have HB := Lib.hid hb1
      clear hB hb1
      go_wp2_with fail
      go_ret
      exact ⟨rfl, HB.out⟩
    · have HH := Lib.hid h
      obtain ⟨A, cap, rfl, hf⟩ := h.form
      cases hx : P.any TB.badP
      · obtain rfl : c = 0 := by rw [← hc]; unfold TB.phCode; rw [if_pos hb, if_neg hl, hx]; rfl
        have HX := Lib.hid hx
        clear h hT hb hc hf hx
        go_enter Tryd.func9, Tryd.ntmps9
        go_wp2_with fail
        refine hB.mono ?_
        rintro e w1 ⟨rfl, hb1⟩
        have hC := ContainsFuncS_any (HH.out.below hb1 (Nat.le_refl _)) _ HX.out
        have HB := Lib.hid hb1
        clear hB hb1
        go_wp2_with fail
        refine hC.mono ?_
        rintro e w2 ⟨rfl, rfl⟩
        clear hC
        go_wp2_with fail
        go_ret
        exact ⟨rfl, HB.out⟩
      · obtain rfl : c = 3 := by rw [← hc]; unfold TB.phCode; rw [if_pos hb, if_neg hl, hx]; rfl
        have HX := Lib.hid hx
        clear h hT hb hc hf hx
        go_enter Tryd.func9, Tryd.ntmps9
        go_wp2_with fail
        refine hB.mono ?_
        rintro e w1 ⟨rfl, hb1⟩
        have hC := ContainsFuncS_any (HH.out.below hb1 (Nat.le_refl _)) _ HX.out
        have HB := Lib.hid hb1
        clear hB hb1
        go_wp2_with fail
        refine hC.mono ?_
        rintro e w2 ⟨rfl, rfl⟩
        clear hC
        go_wp2_with fail
        go_ret
        exact ⟨rfl, HB.out⟩
  · obtain rfl : TB.bodyC t = c := by rw [← hc]; unfold TB.phCode; rw [if_neg hb]
    generalize TB.bodyC t = c at *
    have e1 : (c != 0) = true := bne_iff_ne.2 hb
    clear h hT hb hc
    go_enter Tryd.func9, Tryd.ntmps9
    go_wp2_with fail
    refine hB.mono ?_
    rintro e w1 ⟨rfl, hb1⟩
    have HB := Lib.hid hb1
    clear hB hb1
    go_wp2_with fail
    go_ret
    exact ⟨rfl, HB.out⟩
def phrV : List Value := [.string ⟨#[109, 101, 109, 111]⟩, .string ⟨#[83, 69, 67, 82, 69, 84]⟩, .string ⟨#[101]⟩, .string ⟨#[115, 101, 101, 32, 116, 104, 101]⟩, .string ⟨#[195, 169]⟩, .string ⟨#[111, 32, 109]⟩, .string ⟨#[115, 101, 99, 114, 101, 116, 32, 112, 108, 97, 110]⟩]
def PfRel (n g k : Nat) (w w1 : World) (v i : Value) (wr : World) : Prop := ∃ (j : Nat) (P : List ByteArray), i = .int .i64 j ∧ j ≤ n ∧ P.length ≤ j ∧ OwnS wr w1.heap.size v P ∧ Hid (∃ k', k' ≤ k + j ∧ Strm wr g g k') ∧ Hid (Below w.heap.size w wr) ∧ w1.heap.size ≤ wr.heap.size
set_option maxHeartbeats 16000000 in
theorem PhrasesFound_any (A : Option Addr) (n cap : Nat) (w : World) (hl : Ints w w.heap.size A n) (hT : LibV w) :
    Calls Tryd.prog 3 #[.slice A n cap] w (SaysTr w) := by
  have hst := hl.strm (cap := cap)
  clear hl
  have HTL := Lib.hid hT
  have htop := hT.2.2
  have HB0 := Lib.hid ((Below.refl w.heap.size w).alloc (Nat.le_refl _) (.cells #[.slice A n cap, .int .i64 0] 25))
  clear hT
  go_enter Tryd.func3, Tryd.ntmps3
  go_wp2_with fail
  refine (Memo_any w.heap.size w.heap.size 0 (by omega) _ hst).mono ?_
  rintro e w1 ⟨t, ht, rfl, ⟨k1, hk1, hs1⟩, hg1⟩
  have HB1 := Lib.hid (below_onlyF HB0.out hg1 HB0.out.size (Nat.le_refl _))
  have HTS := Lib.hid ht
  have hlt1 := hs1.lt
  clear hst hg1 ht
  go_wp2_with fail
  refine (Next_any _ (by omega) (by omega) w.heap.size w.heap.size k1 (by omega) _ hs1).mono ?_
  rintro e w2 ⟨r, hr1, hr2, rfl, hs2, hg2⟩
  obtain ⟨m, rfl⟩ := Int.eq_ofNat_of_zero_le hr1
  have hm3 : m ≤ 3 := by omega
  have HB2 := Lib.hid (below_onlyF HB1.out hg2 HB1.out.size (Nat.le_refl _))
  have HS2 := Lib.hid hs2
  have hlt2 := hs2.lt
  have HK1 := Lib.hid hk1
  clear hs1 hs2 hg2 hr1 hr2 hk1
  go_wp2_with fail
  go_loopw [5, 18] (fun v i wr => PfRel m w.heap.size (k1 + 1) w w2 v i wr) (fun _ i _ => m - (intOf i).toNat)
  case atStart => exact ⟨0, [], rfl, Nat.zero_le _, Nat.le_refl _, OwnS.nil _ _, Lib.hid ⟨_, by omega, HS2.out⟩, HB2, Nat.le_refl _⟩
  case round =>
    obtain ⟨j, P, rfl, hj, hP, ho, HS, HB, hsz⟩ := hrel
    clear HS2
    obtain ⟨Ap, cp, rfl, -⟩ := ho.form
    have hlt : w.heap.size < w2.heap.size := hlt2
    by_cases hjm : j < m
    · obtain ⟨k3, hk3, hs3⟩ := HS.out
      have hO := One_new 7 phrV 11 9 w.heap.size w.heap.size k3 wr hs3 rfl (by omega) (by omega) (by decide) (by have := HK1.out; omega)
      have HO := Lib.hid ho
      have HK3 := Lib.hid hk3
      have HPL := Lib.hid hP
      clear ho hs3 hk3
      go_wp2_with fail
      refine hO.mono ?_
      rintro e w4 ⟨u, hu, rfl, ⟨k4, hk4, hs4⟩, hg4⟩
      have hb4 := below_onlyF HB.out hg4 HB.out.size (Nat.le_refl _)
      have ho4 : OwnS w4 w2.heap.size (.slice Ap P.length cp) P := HO.out.grown hg4 (fun q hq e => by have := HO.out.base_le q hq; injection e with e; omega)
      have hsz4 : w2.heap.size ≤ w4.heap.size := Nat.le_trans hsz hg4.size
      have H4 := Lib.hid (And.intro ho4 (And.intro hb4 (And.intro hs4 hk4)))
      have HL4 := Lib.hid (show P.length + 1 ≤ 4000000000000 by omega)
      clear hO hu hg4 hb4 ho4 hs4 hk4 hP
      go_wp2_with (at_builtin; refine app_strs _ rfl (.tmp 20) (.tmp 24) rfl w2.heap.size _ P rfl (H4.out.1.alloc _) _ 1 [u] rfl ?_ rfl (lits_cells _ [u] _) HL4.out ?d2; intro v5 w5 ho5 hg5; have H5 := Lib.hid (And.intro ho5 hg5); clear ho5 hg5)
      case d2 => first | omega | (simp; omega)
      have hbl := H4.out.1.base_le
      exact ⟨⟨j + 1, P ++ [u], by simp, by omega, by rw [List.length_append]; have := HPL.out; show P.length + 1 ≤ _; omega, H5.out.1, Lib.hid ⟨k4, by have := HK3.out; have := H4.out.2.2.2; omega, (H4.out.2.2.1.alloc _).grown H5.out.2 (fun e => by have := hbl _ e; omega) (fun q hq => by have := hbl q hq; omega)⟩, Lib.hid (belowS_grown (H4.out.2.1.alloc H4.out.2.1.size _) H5.out.2 (by simp; have := H4.out.2.1.size; omega) (fun q hq => by have := hbl q hq; omega)), Nat.le_trans hsz4 (Nat.le_trans (by simp) H5.out.2.size)⟩, by simp [intOf]; omega⟩
    · obtain ⟨k3, hk3, hs3⟩ := HS.out
      have HO := Lib.hid ho
      have HPL := Lib.hid (show P.length ≤ 3 by omega)
      have hk3b : k3 < 1000000000000 := by have := HK1.out; omega
      clear ho hP hk3
      go_wp2_with fail
      refine (Flip_any 12 (by omega) (by omega) w.heap.size w.heap.size k3 hk3b _ hs3).mono ?_
      rintro e w4 ⟨fl, rfl, hs4, hg4⟩
      have hb4 := below_onlyF HB.out hg4 HB.out.size (Nat.le_refl _)
      have ho4 : OwnS w4 w2.heap.size (.slice Ap P.length cp) P := HO.out.grown hg4 (fun q hq e => by have := HO.out.base_le q hq; injection e with e; omega)
      have hsz4 : w2.heap.size ≤ w4.heap.size := Nat.le_trans hsz hg4.size
      have H4 := Lib.hid (And.intro ho4 hb4)
      have HL4 := Lib.hid (show P.length + 1 ≤ 4000000000000 by have := HPL.out; omega)
      have hend : ∀ (v : Value) (Q : List ByteArray) (W : World), OwnS W w2.heap.size v Q → Below w.heap.size w W → Hid (OwnS W w2.heap.size v Q ∧ Below w.heap.size w W) := fun _ _ _ a b => Lib.hid ⟨a, b⟩
      clear hs3 hs4 hg4 hb4 ho4
      cases fl
      · have HE := hend _ _ _ H4.out.1 H4.out.2
        clear hend
        have htop2 : libTop ≤ w.heap.size := htop
        obtain ⟨c, hc⟩ : ∃ c, TB.phCode t P = c := ⟨_, rfl⟩
        have hLV : LibV w4 := HTL.out.below HE.out.2 htop
        by_cases h0 : c = 0
        · subst h0
          have hF := (Find_ok HE.out.1 hLV (by have := HTS.out; omega) hc).mono fun _ _ h => mix_says h
          have HG := Lib.hid (TB.phCode_ok hc)
          have HC := Lib.hid hc
          obtain ⟨L, hL⟩ : ∃ L, WM.bList (WM.canon (WM.phC (bs (WM.small t)) (lowQ P))) = L := ⟨_, rfl⟩
          obtain ⟨d, hd⟩ : ∃ d, WM.bCode (WM.canon (WM.phC (bs (WM.small t)) (lowQ P))) = d := ⟨_, rfl⟩
          rw [hL, hd] at hF
          have HLD := Lib.hid (And.intro hL hd)
          have HF := Lib.hid hF
          clear hc hLV hL hd hF
          go_wp2_with fail
          refine HF.out.mono ?_
          rintro e w6 ⟨v6, rfl, ho6, hb6⟩
          have HB6 := Lib.hid (HE.out.2.trans (hb6.mono HE.out.2.size))
          have HO6 := Lib.hid (HE.out.1.below hb6 (Nat.le_refl _))
          have HV6 := Lib.hid ho6
          have hFa := PhrasesFault_any HO6.out (HTL.out.below HB6.out htop) (by have := HTS.out; omega) 0 HC.out
          clear ho6 hb6
          go_wp2_with fail
          refine hFa.mono ?_
          rintro e w7 ⟨rfl, hb7⟩
          have HB7 := Lib.hid (HB6.out.trans (hb7.mono HB6.out.size))
          have HO7 := Lib.hid (HO6.out.below hb7 (Nat.le_refl _))
          have HV7 := Lib.hid (HV6.out.below hb7)
          have hFo := (FindOf_ok (t := t) HO7.out (by have := HTS.out; omega) HG.out).mono fun _ _ h => mix_says h
          rw [HLD.out.1, HLD.out.2] at hFo
          have HFO := Lib.hid hFo
          clear hFa hb7 hFo
          go_wp2_with fail
          refine HFO.out.mono ?_
          rintro e w8 ⟨v8, rfl, ho8, hb8⟩
          have HB8 := Lib.hid (HB7.out.trans (hb8.mono HB7.out.size))
          have HV8 := Lib.hid (And.intro (HV7.out.below hb8) ho8)
          have q1 : (d == d) = true := by simp
          clear ho8 hb8
          go_wp2_with fail
          refine (privileges_any _).mono ?_
          rintro e w9 ⟨rfl, hb9⟩
          have HB9 := Lib.hid (HB8.out.trans (hb9.mono HB8.out.size))
          have hE := EqualI_same (HV8.out.1.below hb9) (HV8.out.2.below hb9)
          clear hb9
          go_wp2_with fail
          refine hE.mono ?_
          rintro e w10 ⟨rfl, q, rfl⟩
          clear hE
          go_wp2_with fail
          go_ret
          exact ⟨rfl, below_drewN HB9.out q⟩
        · have hF := Find_bad HE.out.1 hLV (by have := HTS.out; omega) c hc h0
          have HC := Lib.hid hc
          have e1 : (c != 0) = true := bne_iff_ne.2 h0
          clear hc hLV h0
          go_wp2_with fail
          refine hF.mono ?_
          rintro e w6 ⟨v6, rfl, ho6, hb6⟩
          have HB6 := Lib.hid (HE.out.2.trans (hb6.mono HE.out.2.size))
          have HO6 := Lib.hid (HE.out.1.below hb6 (Nat.le_refl _))
          have hFa := PhrasesFault_any HO6.out (HTL.out.below HB6.out htop) (by have := HTS.out; omega) c HC.out
          clear hF ho6 hb6
          go_wp2_with fail
          refine hFa.mono ?_
          rintro e w7 ⟨rfl, hb7⟩
          have HB7 := Lib.hid (HB6.out.trans (hb7.mono HB6.out.size))
          have q1 : (c == c) = true := by simp
          clear hFa hb7
          go_wp2_with fail
          refine (privileges_any _).mono ?_
          rintro e w9 ⟨rfl, hb9⟩
          have HB9 := Lib.hid (HB7.out.trans (hb9.mono HB7.out.size))
          clear hb9
          go_wp2_with fail
          go_ret
          exact ⟨rfl, HB9.out⟩
      · go_wp2_with (at_builtin; refine app_strs _ rfl (.tmp 29) (.tmp 30) rfl w2.heap.size _ P rfl (H4.out.1.alloc _) _ 1 [⟨#[]⟩] rfl ?_ rfl (lits_cells _ [⟨#[]⟩] _) HL4.out ?d2; intro v5 w5 ho5 hg5; have H5 := Lib.hid (And.intro ho5 hg5); obtain ⟨A5, c5, rfl, -⟩ := ho5.form; clear ho5 hg5)
        case d2 => first | omega | (simp; omega)
        have hbl := H4.out.1.base_le
        have HE := hend (.slice A5 (P.length + 1) c5) (P ++ [⟨#[]⟩]) _ (by have h := H5.out.1; rw [List.length_append] at h; exact h) (belowS_grown (H4.out.2.alloc H4.out.2.size _) H5.out.2 (by simp; have := H4.out.2.size; omega) (fun q hq => by have := hbl q hq; omega))
        clear hend
        have htop2 : libTop ≤ w.heap.size := htop
        obtain ⟨c, hc⟩ : ∃ c, TB.phCode t (P ++ [⟨#[]⟩]) = c := ⟨_, rfl⟩
        have hLV : LibV w5 := HTL.out.below HE.out.2 htop
        by_cases h0 : c = 0
        · subst h0
          have hF := (Find_ok HE.out.1 hLV (by have := HTS.out; omega) hc).mono fun _ _ h => mix_says h
          have HG := Lib.hid (TB.phCode_ok hc)
          have HC := Lib.hid hc
          obtain ⟨L, hL⟩ : ∃ L, WM.bList (WM.canon (WM.phC (bs (WM.small t)) (lowQ (P ++ [⟨#[]⟩])))) = L := ⟨_, rfl⟩
          obtain ⟨d, hd⟩ : ∃ d, WM.bCode (WM.canon (WM.phC (bs (WM.small t)) (lowQ (P ++ [⟨#[]⟩])))) = d := ⟨_, rfl⟩
          rw [hL, hd] at hF
          have HLD := Lib.hid (And.intro hL hd)
          have HF := Lib.hid hF
          clear hc hLV hL hd hF
          refine HF.out.mono ?_
          rintro e w6 ⟨v6, rfl, ho6, hb6⟩
          have HB6 := Lib.hid (HE.out.2.trans (hb6.mono HE.out.2.size))
          have HO6 := Lib.hid (HE.out.1.below hb6 (Nat.le_refl _))
          have HV6 := Lib.hid ho6
          have hFa := PhrasesFault_any HO6.out (HTL.out.below HB6.out htop) (by have := HTS.out; omega) 0 HC.out
          clear ho6 hb6
          go_wp2_with fail
          refine hFa.mono ?_
          rintro e w7 ⟨rfl, hb7⟩
          have HB7 := Lib.hid (HB6.out.trans (hb7.mono HB6.out.size))
          have HO7 := Lib.hid (HO6.out.below hb7 (Nat.le_refl _))
          have HV7 := Lib.hid (HV6.out.below hb7)
          have hFo := (FindOf_ok (t := t) HO7.out (by have := HTS.out; omega) HG.out).mono fun _ _ h => mix_says h
          rw [HLD.out.1, HLD.out.2] at hFo
          have HFO := Lib.hid hFo
          clear hFa hb7 hFo
          go_wp2_with fail
          refine HFO.out.mono ?_
          rintro e w8 ⟨v8, rfl, ho8, hb8⟩
          have HB8 := Lib.hid (HB7.out.trans (hb8.mono HB7.out.size))
          have HV8 := Lib.hid (And.intro (HV7.out.below hb8) ho8)
          have q1 : (d == d) = true := by simp
          clear ho8 hb8
          go_wp2_with fail
          refine (privileges_any _).mono ?_
          rintro e w9 ⟨rfl, hb9⟩
          have HB9 := Lib.hid (HB8.out.trans (hb9.mono HB8.out.size))
          have hE := EqualI_same (HV8.out.1.below hb9) (HV8.out.2.below hb9)
          clear hb9
          go_wp2_with fail
          refine hE.mono ?_
          rintro e w10 ⟨rfl, q, rfl⟩
          clear hE
          go_wp2_with fail
          go_ret
          exact ⟨rfl, below_drewN HB9.out q⟩
        · have hF := Find_bad HE.out.1 hLV (by have := HTS.out; omega) c hc h0
          have HC := Lib.hid hc
          have e1 : (c != 0) = true := bne_iff_ne.2 h0
          clear hc hLV h0
          refine hF.mono ?_
          rintro e w6 ⟨v6, rfl, ho6, hb6⟩
          have HB6 := Lib.hid (HE.out.2.trans (hb6.mono HE.out.2.size))
          have HO6 := Lib.hid (HE.out.1.below hb6 (Nat.le_refl _))
          have hFa := PhrasesFault_any HO6.out (HTL.out.below HB6.out htop) (by have := HTS.out; omega) c HC.out
          clear hF ho6 hb6
          go_wp2_with fail
          refine hFa.mono ?_
          rintro e w7 ⟨rfl, hb7⟩
          have HB7 := Lib.hid (HB6.out.trans (hb7.mono HB6.out.size))
          have q1 : (c == c) = true := by simp
          clear hFa hb7
          go_wp2_with fail
          refine (privileges_any _).mono ?_
          rintro e w9 ⟨rfl, hb9⟩
          have HB9 := Lib.hid (HB7.out.trans (hb9.mono HB7.out.size))
          clear hb9
          go_wp2_with fail
          go_ret
          exact ⟨rfl, HB9.out⟩
end Go.Proofs.YtopdpooflihlpaaDoor
