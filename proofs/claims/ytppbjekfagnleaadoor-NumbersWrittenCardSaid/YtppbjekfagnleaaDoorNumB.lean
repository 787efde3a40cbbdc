/- Contracts of numbers of pages: Number, NumberOf. -/
import Derived.Test.YtppbjekfagnleaaDoorNumA
import Derived.Shelf.Strings.Repeat
namespace NM
/-- the code of a number -/
def numC (s : ByteArray) (d n : Int) : Int := if serC s d = 0 then (if n < 1 ∨ (10 ^ d.toNat : Nat) ≤ n then 1 else 0) else serC s d
/-- its text -/
def numT (s : ByteArray) (d n : Int) : ByteArray := if numC s d n = 0 then s ++ ⟨(pad d.toNat n.toNat).toArray⟩ else ⟨#[]⟩
theorem rep_one (c : Nat) : Go.Lib.repeatL [48] c = List.replicate c 48 := by
  have := Go.Lib.repeatL_replicate 48 1 c
  simpa using this
theorem rep_pad (d n : Nat) : (⟨(Go.Lib.repeatL [48] (d - (Go.Lib.decDigits n).length)).toArray⟩ ++ ⟨(Go.Lib.decDigits n).toArray⟩ : ByteArray) = ⟨(pad d n).toArray⟩ := by
  apply ByteArray.ext
  rw [ByteArray.data_append, rep_one]
  apply Array.toList_inj.1
  rw [Array.toList_append]
  rfl
theorem tail_pad (l : List UInt8) : (⟨((49 : UInt8) :: l).toArray⟩ : ByteArray).extract 1 (l.length + 1) = ⟨l.toArray⟩ := by
  apply ByteArray.ext
  rw [ByteArray.data_extract]
  apply Array.toList_inj.1
  simp
theorem numC_ser {s : ByteArray} {d n : Int} (h : serC s d ≠ 0) : numC s d n = serC s d ∧ numT s d n = ⟨#[]⟩ := by
  have e : numC s d n = serC s d := by unfold numC; rw [if_neg h]
  exact ⟨e, by unfold numT; rw [e, if_neg h]⟩
theorem numC_arg {s : ByteArray} {d n : Int} (h : serC s d = 0) (hn : n < 1 ∨ (10 ^ d.toNat : Nat) ≤ n) : numC s d n = 1 ∧ numT s d n = ⟨#[]⟩ := by
  have e : numC s d n = 1 := by unfold numC; rw [if_pos h, if_pos hn]
  exact ⟨e, by unfold numT; rw [e, if_neg (by omega)]⟩
theorem numC_ok {s : ByteArray} {d n : Int} (h : serC s d = 0) (h1 : 1 ≤ n) (h2 : n < (10 ^ d.toNat : Nat)) : numC s d n = 0 ∧ numT s d n = s ++ ⟨(pad d.toNat n.toNat).toArray⟩ := by
  have e : numC s d n = 0 := by unfold numC; rw [if_pos h, if_neg (by omega)]
  exact ⟨e, by unfold numT; rw [if_pos e]⟩
end NM
namespace Go.Proofs.YtppbjekfagnleaaDoor
open Go.RowKit

theorem Repeat0_any (c : Nat) (hc : c ≤ 1000) (w : World) : Calls Tryd.prog 27 #[.string ⟨#[48]⟩, .int .i64 c] w (SaysT ⟨(Lib.repeatL [48] c).toArray⟩ w) :=
  Any.strings_Repeat Tryd.lays105 Tryd.Builder_Extra_105 ⟨#[48]⟩ c w (by omega) (by show 1 * c ≤ _; omega)
set_option maxRecDepth 100000 in
theorem padded_any (n d : Nat) (hd1 : 1 ≤ d) (hd : d ≤ 9) (hn : n < 10 ^ d) (w : World) (hV : NumV w) : Calls Tryd.prog 16 #[.int .i64 n, .int .i64 d] w (SaysT ⟨(NM.pad d n).toArray⟩ w) := by
  have hl := NM.dig_len d n hd1 hn
  have hpl := pow_le d d (Nat.le_refl _) hd
  have hI := Itoa_any n (by omega) w hV
  have hp := NM.rep_pad d n
  have hR := fun W => Repeat0_any (d - (Lib.decDigits n).length) (by omega) W
  have hsz : (⟨(Lib.decDigits n).toArray⟩ : ByteArray).size = (Lib.decDigits n).length := by show (Lib.decDigits n).toArray.size = _; simp
  have HP := Lib.hid hp
  obtain ⟨S, hS⟩ : ∃ S : ByteArray, S = ⟨(Lib.decDigits n).toArray⟩ := ⟨_, rfl⟩
  rw [← hS] at hI hsz
  have hc9 : d - (Lib.decDigits n).length ≤ 9 := by omega
  obtain ⟨c, hc⟩ : ∃ c, d - (Lib.decDigits n).length = c := ⟨_, rfl⟩
  rw [hc] at hR HP hc9
  have hW : IntKind.i64.wrap ((d : Int) - (S.size : Nat)) = (c : Int) := by
    rw [hsz, show (d : Int) - ((Lib.decDigits n).length : Nat) = (c : Int) by omega]
    exact IntWalk.i64_in _ ⟨by omega, by omega⟩
  obtain ⟨R, hRe⟩ : ∃ R : ByteArray, R = ⟨(Lib.repeatL [48] c).toArray⟩ := ⟨_, rfl⟩
  rw [← hRe] at hR
  have hRz : R.size ≤ 1000 := by
    rw [hRe]
    show (Lib.repeatL [48] c).toArray.size ≤ 1000
    rw [List.size_toArray, Lib.repeatL_length]
    simp
    omega
  have hSz : S.size ≤ 1000 := by omega
  have i4 : ¬ 9223372036854775807 < R.size + S.size := by omega
  have HE : Hid (R ++ S = ⟨(NM.pad d n).toArray⟩) := Lib.hid (by rw [hRe, hS]; exact HP.out)
  clear hl hpl hp hsz hS hRe HP hn hV hRz hSz hc9 hc
  go_enter Tryd.func16, Tryd.ntmps16
  go_wp2_with fail
  refine hI.mono ?_
  rintro e w1 ⟨rfl, hb1⟩
  have HB1 := Lib.hid hb1
  have hR1 := hR w1
  clear hI hb1 hR
  go_wp2_with fail
  refine hR1.mono ?_
  rintro e w2 ⟨rfl, hb2⟩
  have HB2 := Lib.hid (HB1.out.trans (hb2.mono HB1.out.size))
  clear hR1 hb2
  go_wp2_with fail
  go_ret
  exact ⟨by rw [HE.out]; rfl, HB2.out⟩
def NumSays (s : ByteArray) (d n : Int) (w : World) (e : Ending) (w' : World) : Prop := e = .returned (.tuple #[.string (NM.numT s d n), .int .i64 (NM.numC s d n)]) ∧ Below w.heap.size w w'
theorem Number_any (s : ByteArray) (d n : Int) (hs : s.size ≤ 1000000000000) (w : World) (hV : NumV w) : Calls Tryd.prog 6 #[.string s, .int .i64 d, .int .i64 n] w (NumSays s d n w) := by
  unfold NumSays
  have hC := checkSeries_any s d hs w
  have HV := Lib.hid hV
  by_cases h0 : NM.serC s d = 0
  · rcases serC_of s d with ⟨_, hc⟩ | ⟨_, _, hc⟩ | ⟨_, _, _, hc⟩ | ⟨_, hd1, hd2, _⟩
    · omega
    · omega
    · omega
    obtain ⟨D, rfl⟩ := Int.eq_ofNat_of_zero_le (show 0 ≤ d by omega)
    have hG := fun W => greatest_any D (by omega) W
    have hpl := pow_le D D (Nat.le_refl _) (by omega)
    have hp0 : 0 < 10 ^ D := Nat.pow_pos (by omega)
    rw [h0] at hC
    have hA := NM.numC_arg (n := n) h0
    have hO := NM.numC_ok (n := n) h0
    simp only [Int.toNat_natCast] at hA hO
    clear h0 hV
    by_cases h1 : n < 1
    · obtain ⟨e1, e2⟩ := hA (.inl h1)
      rw [e1, e2]
      have i1 : decide (n < 1) = true := decide_eq_true h1
      clear hA hO
      go_enter Tryd.func6, Tryd.ntmps6
      go_wp2_with fail
      refine hC.mono ?_
      rintro e w1 ⟨rfl, hb1⟩
      clear hC
      go_wp2_with fail
      go_ret2
      exact ⟨rfl, hb1⟩
    · have i1 : decide (n < 1) = false := decide_eq_false h1
      by_cases h2 : ((10 ^ D : Nat) : Int) ≤ n
      · obtain ⟨e1, e2⟩ := hA (.inr h2)
        rw [e1, e2]
        have i2 : decide (((10 ^ D : Nat) : Int) - 1 < n) = true := decide_eq_true (by omega)
        clear hA hO
        generalize 10 ^ D = P at *
        go_enter Tryd.func6, Tryd.ntmps6
        go_wp2_with fail
        refine hC.mono ?_
        rintro e w1 ⟨rfl, hb1⟩
        have HB1 := Lib.hid hb1
        have hG1 := hG w1
        clear hC hb1 hG
        go_wp2_with fail
        refine hG1.mono ?_
        rintro e w2 ⟨rfl, hb2⟩
        have HB2 := Lib.hid (HB1.out.trans (hb2.mono HB1.out.size))
        clear hG1 hb2
        go_wp2_with fail
        go_ret2
        exact ⟨rfl, HB2.out⟩
      · obtain ⟨N, rfl⟩ := Int.eq_ofNat_of_zero_le (show 0 ≤ n by omega)
        obtain ⟨e1, e2⟩ := hO (by omega) (by omega)
        rw [e1, e2]
        simp only [Int.toNat_natCast]
        have i2 : decide (((10 ^ D : Nat) : Int) - 1 < (N : Int)) = false := decide_eq_false (by omega)
        have hPd := fun W hV => padded_any N D (by omega) (by omega) (by omega) W hV
        have hTz : (⟨(NM.pad D N).toArray⟩ : ByteArray).size = D := by show (NM.pad D N).toArray.size = D; rw [List.size_toArray]; exact NM.pad_len D N (by omega) (by omega)
        generalize (⟨(NM.pad D N).toArray⟩ : ByteArray) = T at *
        have i4 : ¬ 9223372036854775807 < s.size + T.size := by omega
        clear hTz
        clear hA hO e1 e2
        generalize 10 ^ D = P at *
        go_enter Tryd.func6, Tryd.ntmps6
        go_wp2_with fail
        refine hC.mono ?_
        rintro e w1 ⟨rfl, hb1⟩
        have HB1 := Lib.hid hb1
        have hG1 := hG w1
        clear hC hb1 hG
        go_wp2_with fail
        refine hG1.mono ?_
        rintro e w2 ⟨rfl, hb2⟩
        have HB2 := Lib.hid (HB1.out.trans (hb2.mono HB1.out.size))
        have hP2 := hPd w2 (HV.out.belowW HB2.out)
        clear hG1 hb2 hPd
        go_wp2_with fail
        refine hP2.mono ?_
        rintro e w3 ⟨rfl, hb3⟩
        have HB3 := Lib.hid (HB2.out.trans (hb3.mono HB2.out.size))
        clear hP2 hb3
        go_wp2_with fail
        go_ret2
        exact ⟨rfl, HB3.out⟩
  · obtain ⟨e1, e2⟩ := NM.numC_ser (n := n) h0
    rw [e1, e2]
    generalize NM.serC s d = c at *
    clear e1 e2 hV
    go_enter Tryd.func6, Tryd.ntmps6
    go_wp2_with fail
    refine hC.mono ?_
    rintro e w1 ⟨rfl, hb1⟩
    clear hC
    go_wp2_with fail
    go_ret2
    exact ⟨rfl, hb1⟩
theorem NumberOf_any (s : ByteArray) (d n : Int) (hs : s.size ≤ 1000000000000) (w : World) (hV : NumV w) : Calls Tryd.prog 7 #[.string s, .int .i64 d, .int .i64 n] w (NumSays s d n w) := by
  unfold NumSays
  have hC := numbersFault_any s d hs w
  have HV := Lib.hid hV
  by_cases h0 : NM.serC s d = 0
  · rcases serC_of s d with ⟨_, hc⟩ | ⟨_, _, hc⟩ | ⟨_, _, _, hc⟩ | ⟨_, hd1, hd2, _⟩
    · omega
    · omega
    · omega
    obtain ⟨D, rfl⟩ := Int.eq_ofNat_of_zero_le (show 0 ≤ d by omega)
    have hG := fun W => power_any D (by omega) W
    have hpl := pow_le D D (Nat.le_refl _) (by omega)
    have hp0 : 0 < 10 ^ D := Nat.pow_pos (by omega)
    rw [h0] at hC
    have hA := NM.numC_arg (n := n) h0
    have hO := NM.numC_ok (n := n) h0
    simp only [Int.toNat_natCast] at hA hO
    clear h0 hV
    by_cases h1 : n < 1
    · obtain ⟨e1, e2⟩ := hA (.inl h1)
      rw [e1, e2]
      have i1 : decide (n < 1) = true := decide_eq_true h1
      clear hA hO
      go_enter Tryd.func7, Tryd.ntmps7
      go_wp2_with fail
      refine hC.mono ?_
      rintro e w1 ⟨rfl, hb1⟩
      clear hC
      go_wp2_with fail
      go_ret2
      exact ⟨rfl, hb1⟩
    · have i1 : decide (n < 1) = false := decide_eq_false h1
      by_cases h2 : ((10 ^ D : Nat) : Int) ≤ n
      · obtain ⟨e1, e2⟩ := hA (.inr h2)
        rw [e1, e2]
        clear hA hO
        generalize 10 ^ D = P at *
        go_enter Tryd.func7, Tryd.ntmps7
        go_wp2_with fail
        refine hC.mono ?_
        rintro e w1 ⟨rfl, hb1⟩
        have HB1 := Lib.hid hb1
        have hG1 := hG w1
        clear hC hb1 hG
        go_wp2_with fail
        refine hG1.mono ?_
        rintro e w2 ⟨rfl, hb2⟩
        have HB2 := Lib.hid (HB1.out.trans (hb2.mono HB1.out.size))
        clear hG1 hb2
        go_wp2_with fail
        go_ret2
        exact ⟨rfl, HB2.out⟩
      · obtain ⟨N, rfl⟩ := Int.eq_ofNat_of_zero_le (show 0 ≤ n by omega)
        obtain ⟨e1, e2⟩ := hO (by omega) (by omega)
        rw [e1, e2]
        simp only [Int.toNat_natCast]
        have hPl := NM.pad_len D N (by omega) (by omega)
        have hI := fun W hV => Itoa_any (10 ^ D + N) (by omega) W hV
        rw [NM.dig_pow D N (by omega) (by omega)] at hI
        have hT := NM.tail_pad (NM.pad D N)
        have hsz : (⟨((49 : UInt8) :: NM.pad D N).toArray⟩ : ByteArray).size = (NM.pad D N).length + 1 := by show (((49 : UInt8) :: NM.pad D N).toArray).size = _; simp
        generalize (⟨(NM.pad D N).toArray⟩ : ByteArray) = T at *
        rw [← hsz] at hT
        have hW : IntKind.i64.wrap (((10 ^ D : Nat) : Int) + (N : Int)) = ((10 ^ D + N : Nat) : Int) := by
          rw [show ((10 ^ D + N : Nat) : Int) = ((10 ^ D : Nat) : Int) + (N : Int) by omega]
          exact IntWalk.i64_in _ ⟨by omega, by omega⟩
        have i2 : decide (((10 ^ D : Nat) : Int) ≤ (N : Int)) = false := decide_eq_false h2
        have hsz2 : 1 ≤ (⟨((49 : UInt8) :: NM.pad D N).toArray⟩ : ByteArray).size := by omega
        have hsz3 : (⟨((49 : UInt8) :: NM.pad D N).toArray⟩ : ByteArray).size ≤ 10 := by omega
        generalize (⟨((49 : UInt8) :: NM.pad D N).toArray⟩ : ByteArray) = U at *
        have HT := Lib.hid hT
        have i3 : (1 : Int) ≤ (U.size : Int) := by omega
        have i4 : ¬ 9223372036854775807 < s.size + (U.size - 1) := by omega
        clear hA hO e1 e2 hPl hsz hT
        generalize hP : 10 ^ D = P at *
        generalize P + N = Q at *
        go_enter Tryd.func7, Tryd.ntmps7
        go_wp2_with fail
        refine hC.mono ?_
        rintro e w1 ⟨rfl, hb1⟩
        have HB1 := Lib.hid hb1
        have hG1 := hG w1
        clear hC hb1
        go_wp2_with fail
        refine hG1.mono ?_
        rintro e w2 ⟨rfl, hb2⟩
        have HB2 := Lib.hid (HB1.out.trans (hb2.mono HB1.out.size))
        have hG2 := hG w2
        clear hG1 hb2 hG
        go_wp2_with fail
        refine hG2.mono ?_
        rintro e w3 ⟨rfl, hb3⟩
        have HB3 := Lib.hid (HB2.out.trans (hb3.mono HB2.out.size))
        have hI3 := hI w3 (HV.out.belowW HB3.out)
        clear hG2 hb3 hI
        go_wp2_with fail
        refine hI3.mono ?_
        rintro e w4 ⟨rfl, hb4⟩
        have HB4 := Lib.hid (HB3.out.trans (hb4.mono HB3.out.size))
        clear hI3 hb4
        go_wp2_with fail
        go_ret2
        exact ⟨by rw [HT.out]; rfl, HB4.out⟩
  · obtain ⟨e1, e2⟩ := NM.numC_ser (n := n) h0
    rw [e1, e2]
    generalize NM.serC s d = c at *
    clear e1 e2 hV
    go_enter Tryd.func7, Tryd.ntmps7
    go_wp2_with fail
    refine hC.mono ?_
    rintro e w1 ⟨rfl, hb1⟩
    clear hC
    go_wp2_with fail
    go_ret2
    exact ⟨rfl, hb1⟩
end Go.Proofs.YtppbjekfagnleaaDoor
