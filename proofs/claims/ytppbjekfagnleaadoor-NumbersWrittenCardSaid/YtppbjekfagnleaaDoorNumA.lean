/- Contracts of numbers of pages: what the library does, prefixes, powers. -/
import Derived.Test.YtppbjekfagnleaaDoorShelf
import Derived.Test.YtppbjekfagnleaaDoorStream0
import Derived.Test.YtppbjekfagnleaaDoorNumM
import Derived.WalkSmall
import Derived.Shelf.Strings.SlTrimAscii
import Derived.Lib.SmallJoins
namespace NM
theorem dw_all (p : UInt8 → Bool) (l : List UInt8) (h : (l.dropWhile p).all p = true) : l.all p = true := by
  induction l with
  | nil => rfl
  | cons a l ih =>
    cases hp : p a
    · rw [List.dropWhile_cons_of_neg (by simp [hp])] at h; exact h
    · rw [List.dropWhile_cons_of_pos hp] at h; simp [hp]; simpa using ih h
theorem dw_nil (p : UInt8 → Bool) (l : List UInt8) : (l.dropWhile p).isEmpty = l.all p := by
  induction l with
  | nil => rfl
  | cons a l ih =>
    cases hp : p a
    · rw [List.dropWhile_cons_of_neg (by simp [hp])]; simp [hp]
    · rw [List.dropWhile_cons_of_pos hp, ih]; simp [hp]
theorem trim_nil (l cs : List UInt8) : (Go.Lib.trimS l cs).isEmpty = l.all (cs.contains ·) := by
  unfold Go.Lib.trimS Go.Lib.trimLeftS Go.Lib.trimRightS
  rw [dw_nil]
  rw [List.all_reverse]
  cases h : l.all (cs.contains ·)
  · cases h2 : (l.reverse.dropWhile (cs.contains ·)).all (cs.contains ·)
    · rfl
    · have := dw_all _ _ h2
      rw [List.all_reverse, h] at this; cases this
  · have : l.reverse.dropWhile (cs.contains ·) = [] := by
      have := dw_nil (cs.contains ·) l.reverse
      rw [List.all_reverse, h] at this
      simpa using this
    rw [this]; rfl
/-- the capitals -/
def capS : ByteArray := ⟨#[65, 66, 67, 68, 69, 70, 71, 72, 73, 74, 75, 76, 77, 78, 79, 80, 81, 82, 83, 84, 85, 86, 87, 88, 89, 90]⟩
/-- the figures -/
def figS : ByteArray := ⟨#[48, 49, 50, 51, 52, 53, 54, 55, 56, 57]⟩
/-- are all bytes of s of t? -/
def madeB (s t : ByteArray) : Bool := s.data.toList.all (t.data.toList.contains ·)
/-- is s a prefix of numbers? -/
def isPre (s : ByteArray) : Bool := decide (1 ≤ s.size) && (decide (s.size ≤ 8) && madeB s capS)
/-- the fault of a prefix and digits -/
def serC (s : ByteArray) (d : Int) : Int := if isPre s = true then (if d < 4 ∨ 9 < d then 1 else 0) else 3
end NM
namespace Go.Proofs.YtppbjekfagnleaaDoor
open Go.RowKit

/-- the listed variables -/
def numTop : Nat := max (max 2 1) 0 + 1
def ErrAt (g : Nat) (w : World) : Prop := ∃ ev : Value, w.cell? ⟨g, 0, none⟩ = some ev ∧ (ev = .nilIface ∨ ∃ te pe, ev = .iface te pe)
def NumV (w : World) : Prop := (Lib.TabIs Tryd.prog w "internal/strconv.uint64pow10" .u64 Lib.pow10Tab ∧ ErrAt 1 w ∧ ErrAt 0 w) ∧ numTop ≤ w.heap.size
theorem gPow : Tryd.prog.globalNamed "internal/strconv.uint64pow10" = some 2 := by kernel_rfl
theorem ErrAt.below {w w' : World} {B g : Nat} (h : ErrAt g w) (hb : Below B w w') (hB : g < B) : ErrAt g w' := by
  obtain ⟨ev, h1, h2⟩ := h
  exact ⟨ev, (hb.cell (p := ⟨g, 0, none⟩) hB).trans h1, h2⟩
theorem NumV.below {w w' : World} {B : Nat} (h : NumV w) (hb : Below B w w') (hB : numTop ≤ B) : NumV w' := by
  have e1 : 2 < B := Nat.lt_of_lt_of_le (by unfold numTop; omega) hB
  have e2 : 1 < B := Nat.lt_of_lt_of_le (by unfold numTop; omega) hB
  have e3 : 0 < B := Nat.lt_of_lt_of_le (by unfold numTop; omega) hB
  exact ⟨⟨var?_below hb gPow e1 h.1.1, h.1.2.1.below hb e2, h.1.2.2.below hb e3⟩, Nat.le_trans h.2 hb.size⟩
theorem NumV.belowW {w w' : World} (h : NumV w) (hb : Below w.heap.size w w') : NumV w' := h.below hb h.2

def SaysK (b : Bool) (w : World) (e : Ending) (w' : World) : Prop := e = .returned (.bool b) ∧ Below w.heap.size w w'
theorem saysk_of {b c : Bool} {w w' : World} (h : Below w.heap.size w w') (hb : c = b) : SaysK b w (.returned (.bool c)) w' := ⟨by rw [hb], h⟩
def SaysC (c : Int) (w : World) (e : Ending) (w' : World) : Prop := e = .returned (.int .i64 c) ∧ Below w.heap.size w w'
def SaysT (s : ByteArray) (w : World) (e : Ending) (w' : World) : Prop := e = .returned (.string s) ∧ Below w.heap.size w w'
theorem grow_belowN (w : World) (k : Nat) (os : Array Obj) : Below w.heap.size w (Go.Sort.grow (w.drewN k) os) := by
  refine ⟨rfl, rfl, rfl, ?_, fun i hi => ?_⟩
  · show w.heap.size ≤ (w.heap ++ os).size
    rw [Array.size_append]; omega
  · show (w.heap ++ os)[i]? = w.heap[i]?
    exact Array.getElem?_append_left hi
theorem Itoa_any (n : Nat) (hn : n ≤ 9000000000000000000) (w : World) (hV : NumV w) : Calls Tryd.prog 19 #[.int .i64 n] w (SaysT ⟨(Lib.decDigits n).toArray⟩ w) := by
  have h := Any.strconv_Itoa Tryd.laysM171 n (by omega) (by omega) w hV.1.1
  rw [Lib.itoa_nonneg] at h
  refine h.mono ?_
  rintro e w' ⟨rfl, k, os, rfl⟩
  exact ⟨rfl, grow_belowN w k os⟩
theorem made_any (s t : ByteArray) (b : Bool) (hb : NM.madeB s t = b) (hs : s.size ≤ 1000000000000) (ht : t.size < 4294967281) (ha : t.data.toList.all (fun b => decide (b.toNat < 128)) = true) (w : World) :
    Calls Tryd.prog 24 #[.string s, .string t] w (SaysK b w) := by
  have hT := Any.strings_Trim_laid Tryd.lays160 (by kernel_rfl) s t w (by omega) ht (ascii_of_all ha)
  have he := NM.trim_nil s.data.toList t.data.toList
  rw [show s.data.toList.all (t.data.toList.contains ·) = b from hb] at he
  clear hb
  revert hT he
  generalize Lib.trimS s.data.toList t.data.toList = R
  intro hT he
  have hR : (⟨R.toArray⟩ : ByteArray).toList.isEmpty = b := by rw [ByteArray.toList_eq]; simpa using he
  go_enter Tryd.func24, Tryd.ntmps24
  go_wp2_with fail
  refine hT.mono ?_
  rintro e w1 ⟨rfl, hw⟩
  cases b
  · go_wp2_with fail
    go_ret
    exact saysk_of hw (by first | rfl | exact HRB.out)
  · go_wp2_with fail
    go_ret
    exact saysk_of hw (by first | rfl | exact HRB.out)
theorem isPrefix_any (s : ByteArray) (b : Bool) (hb : NM.isPre s = b) (hs : s.size ≤ 1000000000000) (w : World) : Calls Tryd.prog 26 #[.string s] w (SaysK b w) := by
  have hT := Any.strings_Trim_laid Tryd.lays160 (by kernel_rfl) s NM.capS w (by omega) (by decide) (ascii_of_all (by decide))
  have he := NM.trim_nil s.data.toList NM.capS.data.toList
  unfold NM.isPre NM.madeB at hb
  rw [← he] at hb
  unfold NM.capS at hT hb
  clear he
  revert hT hb
  generalize Lib.trimS s.data.toList (ByteArray.mk _).data.toList = R
  intro hb hT
  have hR : (⟨R.toArray⟩ : ByteArray).toList.isEmpty = R.isEmpty := by rw [ByteArray.toList_eq]
  by_cases h0 : s.data.toList = []
  · have e0 : s.size = 0 := by rw [Lib.size_eq, h0]; rfl
    have e1 : (s.toList == []) = true := by rw [Lib.toList_data, h0]; rfl
    obtain rfl : b = false := by rw [← hb, e0]; rfl
    clear hb h0
    go_enter Tryd.func26, Tryd.ntmps26
    go_wp2_with fail
    go_ret
    exact saysk_of (Below.refl _ _) rfl
  · have e0 : 1 ≤ s.size := by rw [Lib.size_eq]; exact List.length_pos_iff.2 h0
    have e1 : (s.toList == []) = false := by rw [Lib.toList_data]; cases h : s.data.toList <;> simp_all
    by_cases h8 : s.size ≤ 8
    · have i8 : (s.size : Int) ≤ 8 := by omega
      rw [decide_eq_true e0, decide_eq_true h8, Bool.true_and, Bool.true_and] at hb
      rw [hb] at hR
      have HRB := Lib.hid hb
      clear hb h0
      go_enter Tryd.func26, Tryd.ntmps26
      go_wp2_with fail
      refine hT.mono ?_
      rintro e w1 ⟨rfl, hw⟩
      clear hT
      cases b
      · go_wp2_with fail
        go_ret
        exact saysk_of hw (by first | rfl | exact HRB.out)
      · go_wp2_with fail
        go_ret
        exact saysk_of hw (by first | rfl | exact HRB.out)
    · have i8 : decide ((s.size : Int) ≤ 8) = false := decide_eq_false (by omega)
      obtain rfl : b = false := by rw [← hb, decide_eq_false h8]; simp
      clear hb h0
      go_enter Tryd.func26, Tryd.ntmps26
      go_wp2_with fail
      go_ret
      exact saysk_of (Below.refl _ _) rfl
theorem prefixOf_any (s : ByteArray) (b : Bool) (hb : NM.isPre s = b) (hs : s.size ≤ 1000000000000) (w : World) : Calls Tryd.prog 28 #[.string s] w (SaysK b w) := by
  have hM := fun b hb => made_any s NM.capS b hb hs (by decide) (by decide) w
  unfold NM.isPre at hb
  by_cases h0 : 1 ≤ s.size
  · have i0 : (1 : Int) ≤ s.size := by omega
    by_cases h8 : s.size ≤ 8
    · have i8 : (s.size : Int) ≤ 8 := by omega
      rw [decide_eq_true h0, decide_eq_true h8, Bool.true_and, Bool.true_and] at hb
      have hM := hM b hb
      unfold NM.capS at hM
      clear hb
      go_enter Tryd.func28, Tryd.ntmps28
      go_wp2_with fail
      refine hM.mono ?_
      rintro e w1 ⟨rfl, hw⟩
      clear hM
      cases b
      all_goals
        go_wp2_with fail
        go_ret
        exact saysk_of hw (by first | rfl | exact HRB.out)
    · have i8 : decide ((s.size : Int) ≤ 8) = false := decide_eq_false (by omega)
      obtain rfl : b = false := by rw [← hb, decide_eq_false h8]; simp
      clear hb hM
      go_enter Tryd.func28, Tryd.ntmps28
      go_wp2_with fail
      go_ret
      exact saysk_of (Below.refl _ _) rfl
  · have i0 : decide ((1 : Int) ≤ s.size) = false := decide_eq_false (by omega)
    obtain rfl : b = false := by rw [← hb, decide_eq_false h0]; simp
    clear hb hM
    go_enter Tryd.func28, Tryd.ntmps28
    go_wp2_with fail
    go_ret
    exact saysk_of (Below.refl _ _) rfl
theorem serC_of (s : ByteArray) (d : Int) : (NM.isPre s = false ∧ NM.serC s d = 3) ∨ (NM.isPre s = true ∧ d < 4 ∧ NM.serC s d = 1) ∨ (NM.isPre s = true ∧ 4 ≤ d ∧ 9 < d ∧ NM.serC s d = 1) ∨ (NM.isPre s = true ∧ 4 ≤ d ∧ d ≤ 9 ∧ NM.serC s d = 0) := by
  unfold NM.serC
  cases NM.isPre s
  · exact .inl ⟨rfl, by simp⟩
  · by_cases h1 : d < 4
    · exact .inr (.inl ⟨rfl, h1, by simp [h1]⟩)
    · by_cases h2 : 9 < d
      · exact .inr (.inr (.inl ⟨rfl, by omega, h2, by simp [h2]⟩))
      · exact .inr (.inr (.inr ⟨rfl, by omega, by omega, by rw [if_pos rfl, if_neg (by omega)]⟩))
theorem checkSeries_any (s : ByteArray) (d : Int) (hs : s.size ≤ 1000000000000) (w : World) : Calls Tryd.prog 14 #[.string s, .int .i64 d] w (SaysC (NM.serC s d) w) := by
  rcases serC_of s d with ⟨hp, hc⟩ | ⟨hp, h1, hc⟩ | ⟨hp, h1, h2, hc⟩ | ⟨hp, h1, h2, hc⟩
  all_goals
    have hP := isPrefix_any s _ hp hs w
    rw [hc]
    clear hp hc
  · go_enter Tryd.func14, Tryd.ntmps14
    go_wp2_with fail
    refine hP.mono ?_
    rintro e w1 ⟨rfl, hw⟩
    go_wp2_with fail
    go_ret
    exact ⟨rfl, hw⟩
  · have i1 : decide (d < 4) = true := decide_eq_true h1
    go_enter Tryd.func14, Tryd.ntmps14
    go_wp2_with fail
    refine hP.mono ?_
    rintro e w1 ⟨rfl, hw⟩
    go_wp2_with fail
    go_ret
    exact ⟨rfl, hw⟩
  · have i1 : decide (d < 4) = false := decide_eq_false (by omega)
    have i2 : decide (9 < d) = true := decide_eq_true h2
    go_enter Tryd.func14, Tryd.ntmps14
    go_wp2_with fail
    refine hP.mono ?_
    rintro e w1 ⟨rfl, hw⟩
    go_wp2_with fail
    go_ret
    exact ⟨rfl, hw⟩
  · have i1 : decide (d < 4) = false := decide_eq_false (by omega)
    have i2 : decide (9 < d) = false := decide_eq_false (by omega)
    go_enter Tryd.func14, Tryd.ntmps14
    go_wp2_with fail
    refine hP.mono ?_
    rintro e w1 ⟨rfl, hw⟩
    go_wp2_with fail
    go_ret
    exact ⟨rfl, hw⟩
theorem numbersFault_any (s : ByteArray) (d : Int) (hs : s.size ≤ 1000000000000) (w : World) : Calls Tryd.prog 17 #[.string s, .int .i64 d] w (SaysC (NM.serC s d) w) := by
  rcases serC_of s d with ⟨hp, hc⟩ | ⟨hp, h1, hc⟩ | ⟨hp, h1, h2, hc⟩ | ⟨hp, h1, h2, hc⟩
  all_goals
    have hP := prefixOf_any s _ hp hs w
    rw [hc]
    clear hp hc
  · go_enter Tryd.func17, Tryd.ntmps17
    go_wp2_with fail
    refine hP.mono ?_
    rintro e w1 ⟨rfl, hw⟩
    go_wp2_with fail
    go_ret
    exact ⟨rfl, hw⟩
  · have i1 : decide (d < 4) = true := decide_eq_true h1
    go_enter Tryd.func17, Tryd.ntmps17
    go_wp2_with fail
    refine hP.mono ?_
    rintro e w1 ⟨rfl, hw⟩
    go_wp2_with fail
    go_ret
    exact ⟨rfl, hw⟩
  · have i1 : decide (d < 4) = false := decide_eq_false (by omega)
    have i2 : decide (9 < d) = true := decide_eq_true h2
    go_enter Tryd.func17, Tryd.ntmps17
    go_wp2_with fail
    refine hP.mono ?_
    rintro e w1 ⟨rfl, hw⟩
    go_wp2_with fail
    go_ret
    exact ⟨rfl, hw⟩
  · have i1 : decide (d < 4) = false := decide_eq_false (by omega)
    have i2 : decide (9 < d) = false := decide_eq_false (by omega)
    go_enter Tryd.func17, Tryd.ntmps17
    go_wp2_with fail
    refine hP.mono ?_
    rintro e w1 ⟨rfl, hw⟩
    go_wp2_with fail
    go_ret
    exact ⟨rfl, hw⟩
def PowRel (w : World) (d : Nat) (n i : Value) (wr : World) : Prop := ∃ k : Nat, i = .int .i64 k ∧ n = .int .i64 (10 ^ k : Nat) ∧ k ≤ d ∧ Below w.heap.size w wr
theorem pow_le (k d : Nat) (h : k ≤ d) (hd : d ≤ 9) : 10 ^ k ≤ 1000000000 := by
  have : 10 ^ k ≤ 10 ^ 9 := Nat.pow_le_pow_right (by omega) (by omega)
  omega
theorem greatest_any (d : Nat) (hd : d ≤ 9) (w : World) : Calls Tryd.prog 15 #[.int .i64 d] w (SaysC ((10 ^ d : Nat) - 1) w) := by
  go_enter Tryd.func15, Tryd.ntmps15
  go_wp2_with fail
  go_loopw [3, 5] (fun n i wr => PowRel w d n i wr) (fun _ i _ => d - (intOf i).toNat)
  case atStart => exact ⟨0, rfl, rfl, Nat.zero_le _, Below.refl _ _⟩
  case round =>
    obtain ⟨k, rfl, rfl, hk, hbw⟩ := hrel
    have HB := Lib.hid hbw
    have hp := pow_le k d hk hd
    have hp0 : 0 < 10 ^ k := Nat.pow_pos (by omega)
    by_cases hlt : k < d
    · have hW : IntKind.i64.wrap (((10 ^ k : Nat) : Int) * 10) = ((10 ^ (k + 1) : Nat) : Int) := by
        have e : 10 ^ (k + 1) = 10 ^ k * 10 := Nat.pow_succ 10 k
        rw [e, show (((10 ^ k * 10 : Nat) : Int)) = ((10 ^ k : Nat) : Int) * 10 by omega]
        exact IntWalk.i64_in _ ⟨by omega, by omega⟩
      have HP : Hid (PowRel w d (.int .i64 (10 ^ (k + 1) : Nat)) (.int .i64 ((k : Int) + 1)) wr) := Lib.hid ⟨k + 1, by simp, rfl, by omega, hbw⟩
      generalize hP : 10 ^ k = P at *
      generalize hQ : 10 ^ (k + 1) = Q at *
      clear hbw
      go_wp2_with fail
      exact ⟨HP.out, by simp [intOf]; omega⟩
    · obtain rfl : k = d := by omega
      have hW : IntKind.i64.wrap (((10 ^ k : Nat) : Int) - 1) = ((10 ^ k : Nat) : Int) - 1 := IntWalk.i64_in _ ⟨by omega, by omega⟩
      generalize 10 ^ k = P at *
      clear hbw
      go_wp2_with fail
      go_ret
      exact ⟨rfl, HB.out⟩
theorem power_any (d : Nat) (hd : d ≤ 9) (w : World) : Calls Tryd.prog 18 #[.int .i64 d] w (SaysC (10 ^ d : Nat) w) := by
  go_enter Tryd.func18, Tryd.ntmps18
  go_wp2_with fail
  go_loopw [3, 5] (fun n i wr => PowRel w d n i wr) (fun _ i _ => d - (intOf i).toNat)
  case atStart => exact ⟨0, rfl, rfl, Nat.zero_le _, Below.refl _ _⟩
  case round =>
    obtain ⟨k, rfl, rfl, hk, hbw⟩ := hrel
    have HB := Lib.hid hbw
    have hp := pow_le k d hk hd
    have hp0 : 0 < 10 ^ k := Nat.pow_pos (by omega)
    by_cases hlt : k < d
    · have hW : IntKind.i64.wrap (((10 ^ k : Nat) : Int) * 10) = ((10 ^ (k + 1) : Nat) : Int) := by
        have e : 10 ^ (k + 1) = 10 ^ k * 10 := Nat.pow_succ 10 k
        rw [e, show (((10 ^ k * 10 : Nat) : Int)) = ((10 ^ k : Nat) : Int) * 10 by omega]
        exact IntWalk.i64_in _ ⟨by omega, by omega⟩
      have HP : Hid (PowRel w d (.int .i64 (10 ^ (k + 1) : Nat)) (.int .i64 ((k : Int) + 1)) wr) := Lib.hid ⟨k + 1, by simp, rfl, by omega, hbw⟩
      generalize hP : 10 ^ k = P at *
      generalize hQ : 10 ^ (k + 1) = Q at *
      clear hbw
      go_wp2_with fail
      exact ⟨HP.out, by simp [intOf]; omega⟩
    · obtain rfl : k = d := by omega
      generalize 10 ^ k = P at *
      clear hbw
      go_wp2_with fail
      go_ret
      exact ⟨rfl, HB.out⟩
end Go.Proofs.YtppbjekfagnleaaDoor
