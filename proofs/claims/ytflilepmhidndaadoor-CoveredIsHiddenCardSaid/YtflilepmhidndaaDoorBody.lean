/- Contracts of shape.printed, Text, CheckBody; of the reference's wellFormed, TextOf, BodyFault. -/
import Derived.Test.YtflilepmhidndaaDoorLay196
import Derived.Test.YtflilepmhidndaaDoorLay100
import Derived.Test.YtflilepmhidndaaDoorSmall0
import Derived.Shelf.Unicode.ValidAny
import Derived.Shelf.Strings.Prefix
import Derived.BigQuiet
namespace TB
def okCh (c : UInt8) : Bool := !(decide (c.toNat < 32) && c.toNat != 10) && c.toNat != 127
def printed (l : List UInt8) : Bool := l.all okCh && Go.Lib.validD l
def text (l : List UInt8) : Bool := (l.isEmpty || Go.Lib.hasSuffix l [10]) && printed l
/-- what is wrong with a text -/
def bodyC (s : ByteArray) : Int := if 20000 < s.size then 2 else if text s.data.toList then 0 else 3
theorem take_snoc (s : ByteArray) (k : Nat) (h : k < s.size) : s.data.toList.take (k + 1) = s.data.toList.take k ++ [s[k]] := by
  rw [List.take_succ_eq_append_getElem (by simpa using h)]; rfl
end TB
namespace Go.Proofs.YtflilepmhidndaaDoor
open Go.RowKit

def libTop : Nat := max (Tryd.lays196_ren.g 3) (Tryd.lays196_ren.g 4) + 1
/-- the library's tables and its variable lie as the program's text lays them -/
def LibV (w : World) : Prop := Lib.Utf8Tabs (Tryd.lays196_ren.g 3) (Tryd.lays196_ren.g 4) w ∧ libTop ≤ w.heap.size
theorem LibV.keep {w w' : World} (h : LibV w) (hs : w.heap.size ≤ w'.heap.size) (hb : ∀ k, k < libTop → w'.heap[k]? = w.heap[k]?) : LibV w' := by
  have hc : ∀ k i, k < libTop → w'.cell? ⟨k, i, none⟩ = w.cell? ⟨k, i, none⟩ := fun k i hk => World.cell?_of_block (w := w) (hb k hk)
  obtain ⟨⟨h1, h2⟩, h4⟩ := h
  have l3 : Tryd.lays196_ren.g 3 < libTop := by unfold libTop; omega
  have l4 : Tryd.lays196_ren.g 4 < libTop := by unfold libTop; omega
  exact ⟨⟨fun c hcc => (hc _ _ l3).trans (h1 c hcc), fun i hi => ⟨(hc _ _ l4).trans (h2 i hi).1, (hc _ _ l4).trans (h2 i hi).2⟩⟩, Nat.le_trans h4 hs⟩
theorem LibV.below {w w' : World} {B : Nat} (h : LibV w) (hb : Below B w w') (hB : libTop ≤ B) : LibV w' := h.keep hb.size fun k hk => hb.block k (Nat.lt_of_lt_of_le hk hB)
theorem LibV.belowW {w w' : World} (h : LibV w) (hb : Below w.heap.size w w') : LibV w' := h.below hb h.2
theorem LibV.drewN {w : World} (h : LibV w) (n : Nat) : LibV (w.drewN n) := h.keep (Nat.le_refl _) fun _ _ => rfl
/-- yes or no is answered; what lay, lies -/
def SaysQ (b : Bool) (w : World) (e : Ending) (w' : World) : Prop := e = .returned (.bool b) ∧ Below w.heap.size w w'
theorem saysq_of {b c : Bool} {w w' : World} (h : Below w.heap.size w w') (hb : c = b) : SaysQ b w (.returned (.bool c)) w' := ⟨by rw [hb], h⟩
def AllR (p : UInt8 → Bool) (s : ByteArray) (w : World) (i : Value) (wr : World) : Prop := ∃ k : Nat, k ≤ s.size ∧ i = .int .i64 k ∧ Hid ((s.data.toList.take k).all p = true) ∧ ∃ n, wr = w.drewN n
theorem all_nextB {p : UInt8 → Bool} {s : ByteArray} {k : Nat} (hlt : k < s.size) (H : Hid ((s.data.toList.take k).all p = true)) (h : p s[k] = true) : Hid ((s.data.toList.take (k + 1)).all p = true) := by
  show _ = _
  rw [TB.take_snoc s k hlt, List.all_append, H.out]; simp [h]
theorem all_notB {p : UInt8 → Bool} {s : ByteArray} {k : Nat} (hlt : k < s.size) (h : p s[k] = false) : s.data.toList.all p = false := by
  rw [List.all_eq_false]
  exact ⟨s[k], by simp [ByteArray.getElem_eq_getElem_data], by simp [h]⟩
set_option maxHeartbeats 1000000 in
theorem printedB_any (s : ByteArray) (b : Bool) (hb : TB.printed s.data.toList = b) (hs : s.size ≤ 1000000000000) (w : World) (hT : LibV w) :
    Calls Tryd.prog 68 #[.string s] w (SaysQ b w) := by
  subst hb
  have hsl : s.data.toList.length = s.size := by simp
  go_enter Tryd.func68, Tryd.ntmps68
  go_wp2_with fail
  go_loopw [6] (fun i wr => AllR TB.okCh s w i wr) (fun i _ => s.size - (intOf i).toNat)
  case atStart => exact ⟨0, by omega, rfl, rfl, 0, rfl⟩
  case round =>
    obtain ⟨k, hk, rfl, H, n, rfl⟩ := hrel
    by_cases hlt : k < s.size
    · by_cases h1 : s[k].toNat < 32
      · by_cases h2 : s[k].toNat = 10
        · go_wp2_with fail
          exact ⟨⟨k + 1, by omega, rfl, all_nextB hlt H (by simp [TB.okCh, h2]), n, rfl⟩, by simp [intOf]; omega⟩
        · have e10 : ((s[k].toNat : Int) != 10) = true := bne_iff_ne.2 (by omega)
          go_wp2_with fail
          go_ret
          exact saysq_of (below_drewN (Below.refl _ _) _) (by simp [TB.printed, all_notB hlt (show TB.okCh s[k] = false by simp [TB.okCh, h1, h2])])
      · by_cases h3 : s[k].toNat = 127
        · go_wp2_with fail
          go_ret
          exact saysq_of (below_drewN (Below.refl _ _) _) (by simp [TB.printed, all_notB hlt (show TB.okCh s[k] = false by simp [TB.okCh, h3])])
        · have e127 : ((s[k].toNat : Int) == 127) = false := beq_eq_false_iff_ne.2 (by omega)
          go_wp2_with fail
          exact ⟨⟨k + 1, by omega, rfl, all_nextB hlt H (by simp [TB.okCh, h1, h3]), n, rfl⟩, by simp [intOf]; omega⟩
    · have hall : s.data.toList.all TB.okCh = true := by have := H.out; rwa [List.take_of_length_le (by omega)] at this
      clear H
      go_wp2_with fail
      refine (Any.utf8_ValidString Tryd.lays196 s _ (by omega) (hT.drewN n).1).mono ?_
      rintro e w1 ⟨rfl, hw1⟩
      go_wp2_with fail
      go_ret
      exact saysq_of ((below_drewN (Below.refl w.heap.size w) n).trans hw1) (by simp [TB.printed, hall])
/-- strings.HasSuffix at a line feed -/
theorem suffixNl (s : ByteArray) (hs : s.size ≤ 1000000000000) (w : World) : Calls Tryd.prog 37 #[.string s, .string ⟨#[10]⟩] w fun e w' => e = .returned (.bool (Lib.hasSuffix s.data.toList [10])) ∧ w = w' := by
  refine (show Calls Tryd.prog 37 #[.string s, .string ⟨#[10]⟩] w _ from Any.strings_HasSuffix Tryd.lays100 s ⟨#[10]⟩ w (by omega)).mono ?_
  rintro e w' ⟨rfl, rfl⟩
  exact ⟨rfl, rfl⟩
set_option maxHeartbeats 1000000 in
theorem Text_any (s : ByteArray) (hs : s.size ≤ 1000000000000) (w : World) (hT : LibV w) : Calls Tryd.prog 53 #[.string s] w (SaysQ (TB.text s.data.toList) w) := by
  cases hp : TB.printed s.data.toList
  all_goals
    have hP := fun W hW => printedB_any s _ hp hs W hW
    cases he : s.data.toList.isEmpty
    · have e1 : (s.toList == []) = false := by rw [Lib.toList_data]; cases h : s.data.toList <;> simp_all
      cases hx : Lib.hasSuffix s.data.toList [10]
      all_goals
        have hS := suffixNl s hs w
        rw [hx] at hS
        have HV := Lib.hid (And.intro (And.intro hp he) hx)
        have HT := Lib.hid hT
        clear hp he hx hT
        go_enter Tryd.func53, Tryd.ntmps53
        go_wp2_with fail
        refine hS.mono ?_
        rintro e w1 ⟨rfl, rfl⟩
        clear hS
        go_wp2_with (go_at_call 68; refine (hP _ HT.out).mono ?_; rintro e w1 ⟨rfl, hw1⟩)
        go_ret
        exact saysq_of (by first | assumption | exact Below.refl _ _) (by unfold TB.text; rw [HV.out.1.1, HV.out.1.2, HV.out.2]; rfl)
    · have e1 : (s.toList == []) = true := by rw [Lib.toList_data]; cases h : s.data.toList <;> simp_all
      have HV := Lib.hid (And.intro hp he)
      have HT := Lib.hid hT
      clear hp he hT
      go_enter Tryd.func53, Tryd.ntmps53
      go_wp2_with fail
      refine (hP _ HT.out).mono ?_
      rintro e w1 ⟨rfl, hw1⟩
      go_wp2_with fail
      go_ret
      exact saysq_of hw1 (by unfold TB.text; rw [HV.out.1, HV.out.2]; rfl)
/-- a code is answered -/
def SaysM (c : Int) (w : World) (e : Ending) (w' : World) : Prop := e = .returned (.int .i64 c) ∧ Below w.heap.size w w'
theorem CheckBody_any (s : ByteArray) (hs : s.size ≤ 1000000000) (w : World) (hT : LibV w) : Calls Tryd.prog 38 #[.string s] w (SaysM (TB.bodyC s) w) := by
  by_cases h : 20000 < s.size
  · have HE := Lib.hid (show TB.bodyC s = 2 by unfold TB.bodyC; rw [if_pos h])
    go_enter Tryd.func38, Tryd.ntmps38
    go_wp2_with fail
    go_ret
    exact ⟨by rw [HE.out]; rfl, Below.refl _ _⟩
  · have hX := Text_any s (by omega) w hT
    cases ht : TB.text s.data.toList
    · have HE := Lib.hid (show TB.bodyC s = 3 by unfold TB.bodyC; rw [if_neg h, ht]; rfl)
      rw [ht] at hX
      clear ht
      go_enter Tryd.func38, Tryd.ntmps38
      go_wp2_with fail
      refine hX.mono ?_
      rintro e w1 ⟨rfl, hw1⟩
      have HB := Lib.hid hw1
      clear hw1 hX
      go_wp2_with fail
      go_ret
      exact ⟨by rw [HE.out]; rfl, HB.out⟩
    · have HE := Lib.hid (show TB.bodyC s = 0 by unfold TB.bodyC; rw [if_neg h, ht]; rfl)
      rw [ht] at hX
      clear ht
      go_enter Tryd.func38, Tryd.ntmps38
      go_wp2_with fail
      refine hX.mono ?_
      rintro e w1 ⟨rfl, hw1⟩
      have HB := Lib.hid hw1
      clear hw1 hX
      go_wp2_with fail
      go_ret
      exact ⟨by rw [HE.out]; rfl, HB.out⟩
def WfRel (s : ByteArray) (w : World) (i : Value) (wr : World) : Prop := ∃ k : Nat, k ≤ s.size ∧ i = .int .i64 k ∧ Hid ((s.data.toList.take k).all TB.okCh = true) ∧ Below w.heap.size w wr ∧ Hid (SmRow wr w.heap.size s 0)
set_option maxHeartbeats 2000000 in
theorem wellFormed_any (s : ByteArray) (b : Bool) (hb : TB.printed s.data.toList = b) (hs : s.size ≤ 1000000000) (w : World) (hT : LibV w) :
    Calls Tryd.prog 36 #[.string s, .bool true] w (SaysQ b w) := by
  subst hb
  obtain ⟨W, cap, hconv, hbW, hgW, hrow⟩ := conv_row s w
  have hsl : s.data.toList.length = s.size := by simp
  have HR := Lib.hid hrow
  have HT := Lib.hid hT
  clear hrow hT
  go_enter Tryd.func36, Tryd.ntmps36
  go_wp2_with fail
  go_loopw [10] (fun i wr => WfRel s w i wr) (fun i _ => s.size - (intOf i).toNat)
  case atStart => exact ⟨0, by omega, rfl, rfl, hbW, HR⟩
  case round =>
    obtain ⟨k, hk, rfl, H, hbw, HQ⟩ := hrel
    have HB := Lib.hid hbw
    by_cases hlt : k < s.size
    · have hu := WM.get_list s k hlt
      have hg : s.data.toList[k]? = some s[k] := by rw [List.getElem?_eq_getElem (by simpa using hlt)]; simp [ByteArray.getElem_eq_getElem_data]
      have d1 := (HQ.out k _ hg).1
      rw [if_neg (by omega)] at d1
      have HN : TB.okCh s[k] = true → Hid ((s.data.toList.take (k + 1)).all TB.okCh = true) := fun h => all_nextB hlt H h
      have HX : TB.okCh s[k] = false → Hid (s.data.toList.all TB.okCh = false) := fun h => Lib.hid (all_notB hlt h)
      generalize s[k] = c at *
      clear hu hg hbw hconv hbW hgW
      by_cases h1 : c.toNat < 32
      · by_cases h2 : c.toNat = 10
        · have HM := HN (by simp [TB.okCh, h2])
          clear HN HX
          go_wp2_with fail
          exact ⟨⟨k + 1, by omega, by simp, HM, HB.out, HQ⟩, by simp [intOf]; omega⟩
        · have e10 : ((c.toNat : Int) == 10) = false := beq_eq_false_iff_ne.2 (by omega)
          have HM := HX (by simp [TB.okCh, h1, h2])
          clear HN HX
          go_wp2_with fail
          go_ret
          exact saysq_of HB.out (by simp [TB.printed, HM.out])
      · by_cases h3 : c.toNat = 127
        · have HM := HX (by simp [TB.okCh, h3])
          clear HN HX
          go_wp2_with fail
          go_ret
          exact saysq_of HB.out (by simp [TB.printed, HM.out])
        · have e127 : ((c.toNat : Int) == 127) = false := beq_eq_false_iff_ne.2 (by omega)
          have HM := HN (by simp [TB.okCh, h1, h3])
          clear HN HX
          go_wp2_with fail
          exact ⟨⟨k + 1, by omega, by simp, HM, HB.out, HQ⟩, by simp [intOf]; omega⟩
    · have HALL := Lib.hid (show s.data.toList.all TB.okCh = true by have := H.out; rwa [List.take_of_length_le (by omega)] at this)
      have hV := Any.utf8_ValidString Tryd.lays196 s wr (by omega) (HT.out.belowW hbw).1
      clear H hconv hbW hgW hbw
      go_wp2_with fail
      refine hV.mono ?_
      rintro e w1 ⟨rfl, hw1⟩
      have HB1 := Lib.hid (HB.out.trans (hw1.mono HB.out.size))
      clear hV hw1
      go_wp2_with fail
      go_ret
      exact saysq_of HB1.out (by simp [TB.printed, HALL.out])
set_option maxHeartbeats 1000000 in
theorem TextOf_any (s : ByteArray) (hs : s.size ≤ 1000000000) (w : World) (hT : LibV w) : Calls Tryd.prog 18 #[.string s] w (SaysQ (TB.text s.data.toList) w) := by
  cases hp : TB.printed s.data.toList
  · have hP := wellFormed_any s _ hp hs w hT
    have HV := Lib.hid hp
    clear hp hT
    go_enter Tryd.func18, Tryd.ntmps18
    go_wp2_with fail
    refine hP.mono ?_
    rintro e w1 ⟨rfl, hw1⟩
    go_wp2_with fail
    go_ret
    exact saysq_of hw1 (by unfold TB.text; rw [HV.out, Bool.and_false])
  · have hP := wellFormed_any s _ hp hs w hT
    cases he : s.data.toList.isEmpty
    · have e1 : (s.toList == []) = false := by rw [Lib.toList_data]; cases h : s.data.toList <;> simp_all
      have HV := Lib.hid (And.intro hp he)
      have hS := fun W => suffixNl s (by omega) W
      clear hp he hT
      go_enter Tryd.func18, Tryd.ntmps18
      go_wp2_with fail
      refine hP.mono ?_
      rintro e w1 ⟨rfl, hw1⟩
      have HB := Lib.hid hw1
      clear hw1 hP
      go_wp2_with fail
      refine (hS _).mono ?_
      rintro e w2 ⟨rfl, rfl⟩
      clear hS
      go_wp2_with fail
      go_ret
      exact saysq_of HB.out (by unfold TB.text; rw [HV.out.1, HV.out.2]; simp)
    · have e1 : (s.toList == []) = true := by rw [Lib.toList_data]; cases h : s.data.toList <;> simp_all
      have HV := Lib.hid (And.intro hp he)
      clear hp he hT
      go_enter Tryd.func18, Tryd.ntmps18
      go_wp2_with fail
      refine hP.mono ?_
      rintro e w1 ⟨rfl, hw1⟩
      go_wp2_with fail
      go_ret
      exact saysq_of hw1 (by unfold TB.text; rw [HV.out.1, HV.out.2]; rfl)
theorem BodyFault_any (s : ByteArray) (hs : s.size ≤ 1000000000) (w : World) (hT : LibV w) : Calls Tryd.prog 5 #[.string s] w (SaysM (TB.bodyC s) w) := by
  by_cases h : 20000 < s.size
  · have HE := Lib.hid (show TB.bodyC s = 2 by unfold TB.bodyC; rw [if_pos h])
    go_enter Tryd.func5, Tryd.ntmps5
    go_wp2_with fail
    go_ret
    exact ⟨by rw [HE.out]; rfl, Below.refl _ _⟩
  · have hX := TextOf_any s hs w hT
    cases ht : TB.text s.data.toList
    · have HE := Lib.hid (show TB.bodyC s = 3 by unfold TB.bodyC; rw [if_neg h, ht]; rfl)
      rw [ht] at hX
      clear ht
      go_enter Tryd.func5, Tryd.ntmps5
      go_wp2_with fail
      refine hX.mono ?_
      rintro e w1 ⟨rfl, hw1⟩
      have HB := Lib.hid hw1
      clear hw1 hX
      go_wp2_with fail
      go_ret
      exact ⟨by rw [HE.out]; rfl, HB.out⟩
    · have HE := Lib.hid (show TB.bodyC s = 0 by unfold TB.bodyC; rw [if_neg h, ht]; rfl)
      rw [ht] at hX
      clear ht
      go_enter Tryd.func5, Tryd.ntmps5
      go_wp2_with fail
      refine hX.mono ?_
      rintro e w1 ⟨rfl, hw1⟩
      have HB := Lib.hid hw1
      clear hw1 hX
      go_wp2_with fail
      go_ret
      exact ⟨by rw [HE.out]; rfl, HB.out⟩
end Go.Proofs.YtflilepmhidndaaDoor
