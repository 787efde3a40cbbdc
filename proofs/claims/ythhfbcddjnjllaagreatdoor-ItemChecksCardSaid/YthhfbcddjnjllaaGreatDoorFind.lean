/- Contracts of find, number and plant. -/
import Derived.Test.YthhfbcddjnjllaaGreatDoorPlace
import Derived.Test.YthhfbcddjnjllaaGreatDoorShelf
namespace Go.Proofs.YthhfbcddjnjllaaGreatDoor
open Go.RowKit

def SaysC (a b : List UInt8) (w : World) (e : Ending) (w' : World) : Prop := ∃ z : Int, -1 ≤ z ∧ z ≤ 1 ∧ (a < b → z < 0) ∧ (¬ a < b → 0 ≤ z) ∧ (a = b → z = 0) ∧ (a ≠ b → z ≠ 0) ∧ e = .returned (.int .i64 z) ∧ Below w.heap.size w w'
set_option maxHeartbeats 400000 in
theorem find1_any (x : It) (s : ByteArray) (w : World) : Calls Tryz.prog 217 #[.agg x.cells, .string s] w (SaysC x.id.toList s.toList w) := by
  go_enter Tryz.func217, Tryz.ntmps217
  go_upto_region 1 with (fail)
  have hW : Below w.heap.size w (w.alloc (.cells x.cells 30)) := (Below.refl _ _).alloc (Nat.le_refl _) _
  have c0 : (w.alloc (.cells x.cells 30)).cell? ⟨w.heap.size, 0, none⟩ = some (.string x.id) := World.cell?_alloc_at _ _ _ _ (by simp)
  go_wp2_with fail
  refine (Tryz.strings_Compare x.id s _).mono ?_
  rintro e w' ⟨rfl, rfl⟩
  have h1 := LX.compare_le x.id.data.toList s.data.toList
  have h2 := LX.compare_neg x.id.data.toList s.data.toList
  have h3 := LX.compare_zero x.id.data.toList s.data.toList
  rw [← ByteArray.toList_eq, ← ByteArray.toList_eq] at h1 h2 h3 ⊢
  have H2 := Lib.hid h2
  have H3 := Lib.hid h3
  clear h2 h3
  generalize Lib.compareBytes x.id.toList s.toList = z at *
  go_wp2_with fail
  go_ret
  exact ⟨z, h1.1, h1.2, H2.out.2, fun h => by have := mt H2.out.1 h; omega, H3.out.2, fun h => mt H3.out.1 h, rfl, hW⟩

def BsRel (L : List It) (s : List UInt8) (w : World) (i j : Value) (wr : World) : Prop := ∃ lo hi : Nat, lo ≤ hi ∧ hi ≤ L.length ∧ i = .int .i64 lo ∧ j = .int .i64 hi ∧
  Hid (∀ (j : Nat) (z : It), j < lo → L[j]? = some z → z.id.toList < s) ∧ Hid (∀ (j : Nat) (z : It), hi ≤ j → L[j]? = some z → ¬ z.id.toList < s) ∧ Below w.heap.size w wr
def Found (o : Option Nat) (i : Nat) (f : Bool) : Prop := (f = true → o = some i) ∧ (f = false → o = none)
theorem found_yes {o : Option Nat} {i : Nat} (h : o = some i) : Found o i true := ⟨fun _ => h, fun h => by cases h⟩
theorem found_no {o : Option Nat} {i : Nat} (h : o = none) : Found o i false := ⟨fun h => (by cases h), fun _ => h⟩
/-- the place, and whether it is there -/
def SaysF (o : Option Nat) (w : World) (e : Ending) (w' : World) : Prop := ∃ (i : Nat) (f : Bool), i ≤ 1000000 ∧ e = .returned (.tuple #[.int .i64 i, .bool f]) ∧ Found o i f ∧ Below w.heap.size w w'

set_option maxHeartbeats 2000000 in
theorem bs_any (L : List It) (A : Option Addr) (cap : Nat) (s : ByteArray) (w : World) (hA : ItRow w A cap L) (hL : L.length ≤ 1000000) (hr : IM.rises L) :
    Calls Tryz.prog 216 #[.slice A L.length cap, .string s, .func (.func 217) #[] #[]] w (SaysF (IM.place L s.toList) w) := by
  have hcap := hA.capLe
  have hmax := hA.capMax
  have HR := Lib.hid hr
  clear hr
  have eg := enters_of Tryz.func217 (by kernel_rfl) rfl
  go_enter Tryz.func216, Tryz.ntmps216
  go_wp2_with fail
  go_loopw [9, 10] (fun i j wr => BsRel L s.toList w i j wr) (fun i j _ => (intOf j).toNat - (intOf i).toNat)
  case atStart => exact ⟨0, L.length, by omega, by omega, rfl, rfl, fun j z h => by omega, fun j z h hz => by have := (List.getElem?_eq_some_iff.1 hz).1; omega, Below.refl _ _⟩
  case round =>
    obtain ⟨lo, hi, hlh, hhn, rfl, rfl, H1, H2, hb⟩ := hrel
    by_cases hlt : lo < hi
    · obtain ⟨m, hm⟩ : ∃ m, m = (lo + hi) / 2 := ⟨_, rfl⟩
      have hm1 : lo ≤ m := by omega
      have hm2 : m < hi := by omega
      obtain ⟨x, hx⟩ : ∃ x, L[m]? = some x := ⟨_, List.getElem?_eq_getElem (by omega)⟩
      have HX := Lib.hid hx
      obtain ⟨b, off, rfl, hbl, hat⟩ := (hA.below hb).at_ m x hx
      have HM := Lib.hid hm
      clear hx hm
      obtain ⟨c0, c1, c2, c3, c4, c5, c6⟩ := hat
      go_upto_region 5 with (fail)
      rw [show ((lo : Int) + (hi : Int)) / 2 = (m : Int) from by have := HM.out; omega]
      go_wp2_with fail
      refine (find1_any x s _).mono ?_
      rintro e w1 ⟨z, hz1, hz2, hz3, hz4, hz5, hz6, rfl, hw1⟩
      have hbw := hb.trans (hw1.mono hb.size)
      clear hz5 hz6
      by_cases hlt' : x.id.toList < s.toList
      · have hz := hz3 hlt'
        have HLT := Lib.hid hlt'
        clear hz3 hz4 hlt'
        go_wp2_with fail
        exact ⟨⟨m + 1, hi, by omega, hhn, rfl, rfl, IM.half_low HR.out HX.out HLT.out, H2, hbw⟩, by simp [intOf]; omega⟩
      · have hz := hz4 hlt'
        have HLT := Lib.hid hlt'
        clear hz3 hz4 hlt'
        go_wp2_with fail
        exact ⟨⟨lo, m, by omega, by omega, rfl, rfl, H1, IM.half_high HR.out HX.out HLT.out, hbw⟩, by simp [intOf]; omega⟩
    · obtain rfl : lo = hi := by omega
      have HP := Lib.hid (IM.place_half HR.out H1.out H2.out)
      by_cases hn : lo < L.length
      · obtain ⟨x, hx⟩ : ∃ x, L[lo]? = some x := ⟨_, List.getElem?_eq_getElem hn⟩
        obtain ⟨b, off, rfl, hbl, hat⟩ := (hA.below hb).at_ lo x hx
        have HX := Lib.hid hx
        clear hx
        obtain ⟨c0, c1, c2, c3, c4, c5, c6⟩ := hat
        go_wp2_with fail
        refine (find1_any x s _).mono ?_
        rintro e w1 ⟨z, hz1, hz2, hz3, hz4, hz5, hz6, rfl, hw1⟩
        have hbw := hb.trans (hw1.mono hb.size)
        clear hz3 hz4
        by_cases he : x.id.toList = s.toList
        · obtain rfl := hz5 he
          have HE := Lib.hid he
          clear hz5 hz6 he
          go_wp2_with fail
          go_ret2
          exact ⟨lo, true, by omega, rfl, found_yes (HP.out.1 x HX.out HE.out), hbw⟩
        · have hz := hz6 he
          have hz' : (z == 0) = false := beq_eq_false_iff_ne.2 hz
          have HE := Lib.hid he
          clear hz5 hz6 he
          go_wp2_with fail
          go_ret2
          refine ⟨lo, false, by omega, rfl, found_no (HP.out.2 fun y hy => ?_), hbw⟩
          have := HX.out
          rw [hy] at this
          injection this with this
          subst this
          exact HE.out
      · go_wp2_with fail
        go_ret2
        exact ⟨lo, false, by omega, rfl, found_no (HP.out.2 fun y hy => absurd (List.getElem?_eq_some_iff.1 hy).1 hn), hb⟩

set_option maxHeartbeats 400000 in
theorem find_any (L : List It) (A : Option Addr) (cap : Nat) (s : ByteArray) (w : World) (hA : ItRow w A cap L) (hL : L.length ≤ 1000000) (hr : IM.rises L) :
    Calls Tryz.prog 159 #[.slice A L.length cap, .string s] w (SaysF (IM.place L s.toList) w) := by
  have HR := Lib.hid hr
  clear hr
  go_enter Tryz.func159, Tryz.ntmps159
  go_wp2_with fail
  refine (bs_any L A cap s _ hA hL HR.out).mono ?_
  rintro e w1 ⟨i, f, hi, rfl, H, hw1⟩
  go_wp2_with fail
  go_ret2
  exact ⟨i, f, hi, rfl, H, hw1⟩

set_option maxHeartbeats 400000 in
theorem number_any (L : List It) (x : It) (A : Option Addr) (cap : Nat) (v : Value) (w : World) (hA : ItRow w A cap L) (hL : L.length ≤ 1000000) (hr : IM.rises L) :
    Calls Tryz.prog 108 #[.agg #[.slice A L.length cap, v], .string x.parent] w (SaysP (IM.par L x) w) := by
  have HR := Lib.hid hr
  clear hr
  have hW : ∀ o, Below w.heap.size w (w.alloc o) := fun o => (Below.refl _ _).alloc (Nat.le_refl _) _
  obtain ⟨b, hb⟩ : ∃ b, x.parent.toList.isEmpty = b := ⟨_, rfl⟩
  cases b
  · have HP : Hid (IM.par L x = IM.place L x.parent.toList) := by show _ = _; unfold IM.par; rw [hb]; rfl
    have hb1 : ¬ x.parent.toList = [] := by intro h; rw [h] at hb; cases hb
    go_enter Tryz.func108, Tryz.ntmps108
    go_wp2_with fail
    refine (find_any L A cap x.parent _ (hA.below (hW _)) hL HR.out).mono ?_
    rintro e w1 ⟨i, f, hi, rfl, H, hw1⟩
    cases f
    · go_wp2_with fail
      go_ret
      exact ⟨by rw [HP.out, H.2 rfl]; rfl, (hW _).trans (hw1.mono (hW _).size)⟩
    · go_wp2_with fail
      go_ret
      exact ⟨by rw [HP.out, H.1 rfl]; rfl, (hW _).trans (hw1.mono (hW _).size)⟩
  · have HP : Hid (IM.par L x = none) := by show _ = _; unfold IM.par; rw [hb]; rfl
    go_enter Tryz.func108, Tryz.ntmps108
    go_wp2_with fail
    go_ret
    exact ⟨by rw [HP.out]; rfl, hW _⟩
end Go.Proofs.YthhfbcddjnjllaaGreatDoor
