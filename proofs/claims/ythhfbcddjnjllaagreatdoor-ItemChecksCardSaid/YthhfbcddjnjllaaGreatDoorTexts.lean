/- Contracts of Text, Plain and the reference's Plain, IsText. -/
import Derived.Test.YthhfbcddjnjllaaGreatDoorText
namespace Go.Proofs.YthhfbcddjnjllaaGreatDoor
open Go.RowKit

theorem empty_str {s : ByteArray} (h : s.size = 0) : s.toList.isEmpty = true ∧ s.data.toList = [] := by
  have hsl : s.data.toList.length = s.size := by simp
  rw [ByteArray.toList_eq]
  cases h2 : s.data.toList with
  | nil => exact ⟨rfl, rfl⟩
  | cons a l => rw [h2, List.length_cons] at hsl; omega
theorem some_str {s : ByteArray} (h : 0 < s.size) : s.toList.isEmpty = false ∧ s.data.toList.isEmpty = false := by
  have hsl : s.data.toList.length = s.size := by simp
  rw [ByteArray.toList_eq]
  cases h2 : s.data.toList with
  | nil => rw [h2, List.length_nil] at hsl; omega
  | cons a l => exact ⟨rfl, rfl⟩

def SaysE (b : Bool) (w : World) (e : Ending) (w' : World) : Prop := e = .returned (.bool b) ∧ w' = w
theorem suffix_any (s p : ByteArray) (b : Bool) (hb : Lib.hasSuffix s.data.toList p.data.toList = b) (hs : s.size ≤ 1000000000000) (w : World) : Calls Tryz.prog 140 #[.string s, .string p] w (SaysE b w) :=
  (Tryz.strings_HasSuffix s p w (by omega)).mono fun e w' ⟨h1, h2⟩ => ⟨by rw [h1, hb], h2⟩
theorem prefix_any (s p : ByteArray) (b : Bool) (hb : Lib.hasPrefix s.data.toList p.data.toList = b) (w : World) : Calls Tryz.prog 130 #[.string s, .string p] w (SaysE b w) :=
  (Tryz.strings_HasPrefix s p w).mono fun e w' ⟨h1, h2⟩ => ⟨by rw [h1, hb], h2⟩
theorem contains1_any (s : ByteArray) (c : UInt8) (b : Bool) (hb : decide (0 ≤ Lib.indexByte s.data.toList c) = b) (w : World) : Calls Tryz.prog 137 #[.string s, .string ⟨#[c]⟩] w (SaysE b w) :=
  (Tryz.strings_Contains_one s c w).mono fun e w' ⟨h1, h2⟩ => ⟨by rw [h1, hb], h2⟩
theorem contains_any (s p : ByteArray) (b : Bool) (hb : Lib.contains s.data.toList p.data.toList = b) (hs : s.size ≤ 1000000000) (w : World) (hT : Tabs w) : Calls Tryz.prog 137 #[.string s, .string p] w (SaysE b w) := by
  obtain ⟨m, hm⟩ := hT.2.1
  exact (Tryz.strings_Contains s p m w (by omega) hm).mono fun e w' ⟨h1, h2⟩ => ⟨by rw [h1, hb], h2⟩

theorem Text_any (s : ByteArray) (b : Bool) (hb : TM.text s.data.toList = b) (hs : s.size ≤ 1000000000000) (w : World) (hT : Tabs w) :
    Calls Tryz.prog 81 #[.string s] w (SaysK b w) := by
  subst hb
  obtain ⟨b2, hb2⟩ : ∃ b, TM.printed s.data.toList = b := ⟨_, rfl⟩
  by_cases h0 : 0 < s.size
  · obtain ⟨he, he2⟩ := some_str h0
    have hne : s.data.toList ≠ [] := by intro h; rw [h] at he2; cases he2
    obtain ⟨b1, hb1⟩ : ∃ b, Lib.hasSuffix s.data.toList [10] = b := ⟨_, rfl⟩
    go_enter Tryz.func81, Tryz.ntmps81
    go_wp2_with fail
    refine (suffix_any s _ b1 hb1 hs _).mono ?_
    rintro e w1 ⟨rfl, rfl⟩
    cases b1
    · go_wp2_with fail
      go_ret
      exact saysk_of (Below.refl _ _) (by unfold TM.text; rw [he2, hb1]; rfl)
    · go_wp2_with fail
      refine (printed_any s b2 hb2 hs _ hT).mono ?_
      rintro e w1 ⟨rfl, hw1⟩
      cases b2
      · go_wp2_with fail
        go_ret
        exact saysk_of hw1 (by simp [TM.text, hb2])
      · go_wp2_with fail
        go_ret
        exact saysk_of hw1 (by simp [TM.text, hb1, hb2])
  · obtain ⟨he, he2⟩ := empty_str (s := s) (by omega)
    go_enter Tryz.func81, Tryz.ntmps81
    go_wp2_with fail
    refine (printed_any s b2 hb2 hs _ hT).mono ?_
    rintro e w1 ⟨rfl, hw1⟩
    cases b2
    · go_wp2_with fail
      go_ret
      exact saysk_of hw1 (by simp [TM.text, he2]; simpa [he2] using hb2)
    · go_wp2_with fail
      go_ret
      exact saysk_of hw1 (by simp [TM.text, he2]; simpa [he2] using hb2)

theorem plain_no1 {s : ByteArray} {p : UInt8 → Bool} {k : Nat} (hlt : k < s.size) (h : p s[k] = false) (q : Bool) : (s.data.toList.all p && q) = false := by rw [all_not hlt h]; rfl
set_option maxHeartbeats 1000000 in
theorem Plain_any (s : ByteArray) (b : Bool) (hb : TM.plain s.data.toList = b) (hs : s.size ≤ 1000000000) (w : World) (hT : Tabs w) :
    Calls Tryz.prog 79 #[.string s] w (SaysK b w) := by
  subst hb
  obtain ⟨b1, hb1⟩ : ∃ b, Lib.hasPrefix s.data.toList [32] = b := ⟨_, rfl⟩
  obtain ⟨b2, hb2⟩ : ∃ b, Lib.hasSuffix s.data.toList [32] = b := ⟨_, rfl⟩
  obtain ⟨b3, hb3⟩ : ∃ b, Lib.contains s.data.toList [32, 32] = b := ⟨_, rfl⟩
  obtain ⟨b4, hb4⟩ : ∃ b, decide (0 ≤ Lib.indexByte s.data.toList 10) = b := ⟨_, rfl⟩
  obtain ⟨b5, hb5⟩ : ∃ b, TM.printed s.data.toList = b := ⟨_, rfl⟩
  have hP : TM.plain s.data.toList = (!(b1 || b2 || b3) && !b4 && b5) := by unfold TM.plain; rw [hb1, hb2, hb3, hb4, hb5]
  rw [hP]
  go_enter Tryz.func79, Tryz.ntmps79
  go_wp2_with fail
  refine (prefix_any s _ b1 hb1 _).mono ?_
  rintro e w1 ⟨rfl, rfl⟩
  cases b1
  · go_wp2_with fail
    refine (suffix_any s _ b2 hb2 (by omega) _).mono ?_
    rintro e w1 ⟨rfl, rfl⟩
    cases b2
    · go_wp2_with fail
      refine (contains_any s _ b3 hb3 hs _ hT).mono ?_
      rintro e w1 ⟨rfl, rfl⟩
      cases b3
      · go_wp2_with fail
        refine (contains1_any s 10 b4 hb4 _).mono ?_
        rintro e w1 ⟨rfl, rfl⟩
        cases b4
        · go_wp2_with fail
          refine (printed_any s b5 hb5 (by omega) _ hT).mono ?_
          rintro e w1 ⟨rfl, hw1⟩
          cases b5
          · go_wp2_with fail
            go_ret
            exact saysk_of hw1 rfl
          · go_wp2_with fail
            go_ret
            exact saysk_of hw1 rfl
        · go_wp2_with fail
          go_ret
          exact saysk_of (Below.refl _ _) rfl
      · go_wp2_with fail
        go_ret
        exact saysk_of (Below.refl _ _) rfl
    · go_wp2_with fail
      go_ret
      exact saysk_of (Below.refl _ _) rfl
  · go_wp2_with fail
    go_ret
    exact saysk_of (Below.refl _ _) rfl

theorem valid_any (s : ByteArray) (b : Bool) (hb : Lib.validD s.data.toList = b) (hs : s.size ≤ 1000000000000) (w : World) (hT : Tabs w) : Calls Tryz.prog 135 #[.string s] w (SaysK b w) :=
  (Any.utf8_ValidString Tryz.lays196 s w (by omega) hT.1).mono fun e w' ⟨h1, h2⟩ => ⟨by rw [h1, hb], h2⟩

theorem last_str {s : ByteArray} (h : 0 < s.size) : s.data.toList.getLast? = some (s[s.size - 1]'(by omega)) := by
  rw [List.getLast?_eq_getElem?, List.getElem?_eq_getElem (by simp; omega)]
  simp [ByteArray.getElem_eq_getElem_data]
def TM.textR (l : List UInt8) : Bool := l.all TM.okCh && (Lib.validD l && (l.isEmpty || l.getLast? == some 10))
set_option maxHeartbeats 1000000 in
theorem IsText_anyR (s : ByteArray) (b : Bool) (hb : TM.textR s.data.toList = b) (hs : s.size ≤ 1000000000000) (w : World) (hT : Tabs w) :
    Calls Tryz.prog 76 #[.string s] w (SaysK b w) := by
  subst hb
  have hsl : s.data.toList.length = s.size := by simp
  go_enter Tryz.func76, Tryz.ntmps76
  go_wp2_with fail
  go_loopw [6] (fun i wr => AllRel TM.okCh s w i wr) (fun i _ => s.size - (intOf i).toNat)
  case atStart => exact ⟨0, by omega, rfl, rfl, 0, rfl⟩
  case round =>
    obtain ⟨k, hk, rfl, H, n, rfl⟩ := hrel
    by_cases hlt : k < s.size
    · by_cases h1 : s[k].toNat < 32
      · by_cases h2 : s[k].toNat = 10
        · go_wp2_with fail
          exact ⟨⟨k + 1, by omega, rfl, all_next hlt H (by simp [TM.okCh, h2]), n, rfl⟩, by simp [intOf]; omega⟩
        · have e10 : ((s[k].toNat : Int) != 10) = true := bne_iff_ne.2 (by omega)
          go_wp2_with fail
          go_ret
          exact saysk_of (below_drewN (Below.refl _ _) _) (by simp [TM.textR, all_not hlt (show TM.okCh s[k] = false by simp [TM.okCh, h1, h2])])
      · by_cases h3 : s[k].toNat = 127
        · go_wp2_with fail
          go_ret
          exact saysk_of (below_drewN (Below.refl _ _) _) (by simp [TM.textR, all_not hlt (show TM.okCh s[k] = false by simp [TM.okCh, h3])])
        · have e127 : ((s[k].toNat : Int) == 127) = false := beq_eq_false_iff_ne.2 (by omega)
          go_wp2_with fail
          exact ⟨⟨k + 1, by omega, rfl, all_next hlt H (by simp [TM.okCh, h1, h3]), n, rfl⟩, by simp [intOf]; omega⟩
    · have hall : s.data.toList.all TM.okCh = true := by have := H.out; rwa [List.take_of_length_le (by omega)] at this
      clear H
      obtain ⟨b1, hb1⟩ : ∃ b, Lib.validD s.data.toList = b := ⟨_, rfl⟩
      by_cases h0 : 0 < s.size
      · obtain ⟨he, he2⟩ := some_str h0
        go_wp2_with fail
        refine (valid_any s b1 hb1 hs _ (hT.drewN n)).mono ?_
        rintro e w1 ⟨rfl, hw1⟩
        have hw1' := (below_drewN (Below.refl w.heap.size w) n).trans hw1
        cases b1
        · go_wp2_with fail
          go_ret
          exact saysk_of hw1' (by simp [TM.textR, hb1])
        · by_cases h10 : (s[s.size - 1]'(by omega)).toNat = 10
          · go_wp2_with fail
            go_ret
            exact saysk_of hw1' (by simp [TM.textR, hall, hb1, last_str h0, ← UInt8.toNat_inj, h10])
          · have e10 : (((s[s.size - 1]'(by omega)).toNat : Int) == 10) = false := beq_eq_false_iff_ne.2 (by omega)
            have e11 : (some (s[s.size - 1]'(by omega)) == some (10 : UInt8)) = false := by
              simp; intro h; apply h10; rw [h]; rfl
            go_wp2_with fail
            go_ret
            exact saysk_of hw1' (by unfold TM.textR; rw [he2, last_str h0, e11]; simp)
      · obtain ⟨he, he2⟩ := empty_str (s := s) (by omega)
        go_wp2_with fail
        refine (valid_any s b1 hb1 hs _ (hT.drewN n)).mono ?_
        rintro e w1 ⟨rfl, hw1⟩
        have hw1' := (below_drewN (Below.refl w.heap.size w) n).trans hw1
        rw [he2] at hb1
        cases b1
        · go_wp2_with fail
          go_ret
          exact saysk_of hw1' (by simp [TM.textR, hb1, he2])
        · go_wp2_with fail
          go_ret
          exact saysk_of hw1' (by simp [TM.textR, hb1, he2])

def TM.plCh (c : UInt8) : Bool := !(decide (c.toNat < 32)) && c.toNat != 127
def TM.plainR (l : List UInt8) : Bool := l.all TM.plCh && (Lib.validD l && (Lib.trimB l 32 == l) && !Lib.contains l [32, 32])
set_option maxHeartbeats 1000000 in
theorem Plain_anyR (s : ByteArray) (b : Bool) (hb : TM.plainR s.data.toList = b) (hs : s.size ≤ 1000000000) (w : World) (hT : Tabs w) :
    Calls Tryz.prog 75 #[.string s] w (SaysK b w) := by
  subst hb
  have hsl : s.data.toList.length = s.size := by simp
  go_enter Tryz.func75, Tryz.ntmps75
  go_wp2_with fail
  go_loopw [6] (fun i wr => AllRel TM.plCh s w i wr) (fun i _ => s.size - (intOf i).toNat)
  case atStart => exact ⟨0, by omega, rfl, rfl, 0, rfl⟩
  case round =>
    obtain ⟨k, hk, rfl, H, n, rfl⟩ := hrel
    by_cases hlt : k < s.size
    · by_cases h1 : s[k].toNat < 32
      · go_wp2_with fail
        go_ret
        exact saysk_of (below_drewN (Below.refl _ _) _) (by simp [TM.plainR, all_not hlt (show TM.plCh s[k] = false by simp [TM.plCh, h1])])
      · by_cases h3 : s[k].toNat = 127
        · go_wp2_with fail
          go_ret
          exact saysk_of (below_drewN (Below.refl _ _) _) (by simp [TM.plainR, all_not hlt (show TM.plCh s[k] = false by simp [TM.plCh, h3])])
        · have e127 : ((s[k].toNat : Int) == 127) = false := beq_eq_false_iff_ne.2 (by omega)
          go_wp2_with fail
          exact ⟨⟨k + 1, by omega, rfl, all_next hlt H (by simp [TM.plCh, h1, h3]), n, rfl⟩, by simp [intOf]; omega⟩
    · have hall : s.data.toList.all TM.plCh = true := by have := H.out; rwa [List.take_of_length_le (by omega)] at this
      clear H
      obtain ⟨b1, hb1⟩ : ∃ b, Lib.validD s.data.toList = b := ⟨_, rfl⟩
      go_wp2_with fail
      refine (valid_any s b1 hb1 (by omega) _ (hT.drewN n)).mono ?_
      rintro e w1 ⟨rfl, hw1⟩
      have hw1' := (below_drewN (Below.refl w.heap.size w) n).trans hw1
      cases b1
      · go_wp2_with fail
        go_ret
        exact saysk_of hw1' (by simp [TM.plainR, hb1])
      · go_wp2_with fail
        refine (Tryz.strings_Trim_one s 32 (by decide) _ (by omega)).mono ?_
        rintro e w2 ⟨rfl, hw2⟩
        have hw2' : Below w.heap.size w w2 := by
          rcases hw2 with rfl | rfl
          · exact hw1'
          · exact hw1'.drew
        have hT2 : Tabs w2 := hT.below hw2'
        by_cases ht : Lib.trimB s.data.toList 32 = s.toList
        · have hbe : (Lib.trimB s.data.toList 32 == s.data.toList) = true := by rw [ht, ByteArray.toList_eq]; simp
          obtain ⟨b3, hb3⟩ : ∃ b, Lib.contains s.data.toList [32, 32] = b := ⟨_, rfl⟩
          go_wp2_with fail
          refine (contains_any s _ b3 hb3 hs _ hT2).mono ?_
          rintro e w3 ⟨rfl, rfl⟩
          cases b3
          · go_wp2_with fail
            go_ret
            exact saysk_of hw2' (by simp [TM.plainR, hall, hb1, hbe, hb3])
          · go_wp2_with fail
            go_ret
            exact saysk_of hw2' (by simp [TM.plainR, hall, hb1, hbe, hb3])
        · have hbe : (Lib.trimB s.data.toList 32 == s.data.toList) = false := by rw [ByteArray.toList_eq] at ht; simpa using ht
          go_wp2_with fail
          go_ret
          exact saysk_of hw2' (by simp [TM.plainR, hbe])

theorem beq_symm (a b : UInt8) : (a == b) = (b == a) := by rw [Bool.eq_iff_iff, beq_iff_eq, beq_iff_eq]; exact eq_comm
theorem suffix_last (l : List UInt8) (a : UInt8) : Lib.hasSuffix l [a] = (l.getLast? == some a) := by
  unfold Lib.hasSuffix List.isSuffixOf
  rw [← List.head?_reverse]
  cases l.reverse with
  | nil => rfl
  | cons b t => simp [List.isPrefixOf]; exact beq_symm _ _
theorem text_eq (l : List UInt8) : TM.textR l = TM.text l := by
  unfold TM.textR TM.text TM.printed
  rw [suffix_last]
  cases l.all TM.okCh <;> cases Lib.validD l <;> cases l.isEmpty <;> cases (l.getLast? == some 10) <;> rfl
theorem plCh_eq : ∀ c : UInt8, TM.plCh c = (!((c == 10)) && TM.okCh c) := by apply QM.all_u8; decide +kernel
theorem all_plCh (l : List UInt8) : l.all TM.plCh = (!decide (0 ≤ Lib.indexByte l 10) && l.all TM.okCh) := by
  rw [← Lib.contains_iff_indexByte]
  induction l with
  | nil => rfl
  | cons a l ih =>
    rw [List.all_cons, List.all_cons, List.contains_cons, ih, plCh_eq]
    rw [beq_symm 10 a]
    cases (a == 10) <;> cases TM.okCh a <;> cases l.contains 10 <;> cases l.all TM.okCh <;> rfl
theorem dw_len (p : UInt8 → Bool) (l : List UInt8) : (l.dropWhile p).length ≤ l.length := (List.dropWhile_sublist p).length_le
theorem dw_cons (p : UInt8 → Bool) (a : UInt8) (l : List UInt8) (h : p a = true) : ((a :: l).dropWhile p).length < (a :: l).length := by
  rw [List.dropWhile_cons_of_pos h, List.length_cons]; have := dw_len p l; omega
theorem dw_pre (l : List UInt8) (c : UInt8) : (Lib.hasPrefix l [c] = true ∧ (l.dropWhile (· == c)).length < l.length) ∨ (Lib.hasPrefix l [c] = false ∧ l.dropWhile (· == c) = l) := by
  cases l with
  | nil => exact .inr ⟨rfl, rfl⟩
  | cons a l =>
    by_cases h : a = c
    · exact .inl ⟨by simp [Lib.hasPrefix, List.isPrefixOf, h], dw_cons _ _ _ (by simp [h])⟩
    · exact .inr ⟨by simp [Lib.hasPrefix, List.isPrefixOf]; exact fun e => h e.symm, List.dropWhile_cons_of_neg (by simp [h])⟩
theorem trim_eq (l : List UInt8) : (Lib.trimB l 32 == l) = !(Lib.hasPrefix l [32] || Lib.hasSuffix l [32]) := by
  have hs : Lib.hasSuffix l [32] = Lib.hasPrefix l.reverse [32] := by unfold Lib.hasSuffix List.isSuffixOf Lib.hasPrefix; rfl
  rw [hs]
  unfold Lib.trimB Lib.trimLeftB Lib.trimRightB
  rcases dw_pre l.reverse 32 with ⟨h1, h2⟩ | ⟨h1, h2⟩
  · have h3 := dw_len (· == 32) (l.reverse.dropWhile (· == 32)).reverse
    rw [h1]
    rw [List.length_reverse] at h2 h3
    simp only [Bool.or_true, Bool.not_true, beq_eq_false_iff_ne, ne_eq]
    intro h
    have := congrArg List.length h
    omega
  · rw [h1, h2, List.reverse_reverse]
    rcases dw_pre l 32 with ⟨h3, h4⟩ | ⟨h3, h4⟩
    · rw [h3]
      simp only [Bool.or_false, Bool.not_true, beq_eq_false_iff_ne, ne_eq]
      intro h
      have := congrArg List.length h
      omega
    · rw [h3, h4]; simp
theorem plain_eq (l : List UInt8) : TM.plainR l = TM.plain l := by
  unfold TM.plainR TM.plain TM.printed
  rw [all_plCh, trim_eq]
  cases l.all TM.okCh <;> cases Lib.validD l <;> cases Lib.hasPrefix l [32] <;> cases Lib.hasSuffix l [32] <;> cases Lib.contains l [32, 32] <;> cases decide (0 ≤ Lib.indexByte l 10) <;> rfl
theorem RIsText_any (s : ByteArray) (b : Bool) (hb : TM.text s.data.toList = b) (hs : s.size ≤ 1000000000000) (w : World) (hT : Tabs w) : Calls Tryz.prog 76 #[.string s] w (SaysK b w) :=
  IsText_anyR s b ((text_eq _).trans hb) hs w hT
theorem RPlain_any (s : ByteArray) (b : Bool) (hb : TM.plain s.data.toList = b) (hs : s.size ≤ 1000000000) (w : World) (hT : Tabs w) : Calls Tryz.prog 75 #[.string s] w (SaysK b w) :=
  Plain_anyR s b ((plain_eq _).trans hb) hs w hT
end Go.Proofs.YthhfbcddjnjllaaGreatDoor
