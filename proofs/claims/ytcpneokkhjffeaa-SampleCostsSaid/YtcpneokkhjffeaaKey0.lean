/- Contracts of shape.madeOf and shape.Key. -/
import Derived.Test.YtcpneokkhjffeaaBlk
import Derived.Test.YtcpneokkhjffeaaChar
import Derived.Test.YtcpneokkhjffeaaLay137
import Derived.Shelf.Small.Strs
import Derived.Lib.IndexLaws
namespace Go.Proofs.Ytcpneokkhjffeaa
open Go.RowKit

namespace KM
def keyCh (c : UInt8) : Bool := small c || digit c || c.toNat == 45 || c.toNat == 95
def head (l : List UInt8) : Bool := match l with | [] => false | a :: _ => small a
def key (l : List UInt8) : Bool := decide (l.length ≤ 40) && head l && l.all keyCh
/-- a small letter, a digit or one of some signs -/
def madeCh (sg : List UInt8) (c : UInt8) : Bool := small c || digit c || sg.contains c
def made (sg : List UInt8) (most : Int) (l : List UInt8) : Bool := !l.isEmpty && decide ((l.length : Int) ≤ most) && l.all (madeCh sg)
theorem made_key (c : UInt8) : madeCh [45, 95] c = keyCh c := by
  have h : ∀ d : UInt8, (c == d) = (c.toNat == d.toNat) := by
    intro d
    rw [Bool.eq_iff_iff]
    simp [UInt8.toNat_inj]
  simp only [madeCh, keyCh, List.contains_cons, List.contains_nil, Bool.or_false, h, Bool.or_assoc]
  rfl
theorem keyCh_small {c : UInt8} (h : small c = true) : keyCh c = true := by simp [keyCh, h]
theorem take_snoc (s : ByteArray) (k : Nat) (h : k < s.size) : s.data.toList.take (k + 1) = s.data.toList.take k ++ [s[k]] := by
  rw [List.take_succ_eq_append_getElem (by simpa using h)]; rfl
end KM

def SaysIdx (b : Bool) (w : World) (e : Ending) (w' : World) : Prop := ∃ i : Int, -1 ≤ i ∧ i ≤ 1000000000000 ∧ (b = true → 0 ≤ i) ∧ (b = false → i < 0) ∧ e = .returned (.int .i64 i) ∧ w = w'
theorem indexByte_le : ∀ (l : List UInt8) (c : UInt8), Lib.indexByte l c ≤ l.length
  | [], _ => by simp [Lib.indexByte]
  | b :: l, c => by
    unfold Lib.indexByte
    have := indexByte_le l c
    split
    · simp; omega
    · split
      · simp; omega
      · simp; omega
theorem ib_any (s : ByteArray) (c : UInt8) (b : Bool) (hb : s.data.toList.contains c = b) (hs : s.size ≤ 1000000000) (w : World) : Calls Try.prog 40 #[.string s, .int .u8 c.toNat] w (SaysIdx b w) := by
  refine (Any.strings_IndexByte Try.lays137 s c.toNat w).mono ?_
  rintro e w' ⟨rfl, rfl⟩
  have e1 : ((c.toNat : Int).toNat).toUInt8 = c := by simp
  rw [e1]
  have h1 := Lib.indexByte_ge s.data.toList c
  have h2 := indexByte_le s.data.toList c
  have h3 : s.data.toList.length = s.size := by simp
  refine ⟨_, h1, by omega, ?_, ?_, rfl, rfl⟩
  · rintro rfl
    rcases Int.lt_or_le (Lib.indexByte s.data.toList c) 0 with h | h
    · have hn := Lib.indexByte_none (show Lib.indexByte s.data.toList c = -1 by omega)
      obtain ⟨k, hk⟩ := List.getElem?_of_mem (List.contains_iff_mem.1 hb)
      exact absurd hk (hn k)
    · exact h
  · rintro rfl
    rcases Int.lt_or_le (Lib.indexByte s.data.toList c) 0 with h | h
    · exact h
    · obtain ⟨o, ho⟩ := Int.eq_ofNat_of_zero_le h
      have := (Lib.indexByte_some ho).1
      have := List.contains_iff_mem.2 (List.mem_of_getElem? this)
      rw [this] at hb; cases hb

def MadeRel (sg s : ByteArray) (w : World) (i : Value) (wr : World) : Prop := ∃ k : Nat, k ≤ s.size ∧ i = .int .i64 k ∧ Hid ((s.data.toList.take k).all (KM.madeCh sg.data.toList) = true) ∧ ∃ n, wr = w.drewN n
theorem made_next {sg s : ByteArray} {k : Nat} (hlt : k < s.size) (H : Hid ((s.data.toList.take k).all (KM.madeCh sg.data.toList) = true)) (h : KM.madeCh sg.data.toList s[k] = true) : Hid ((s.data.toList.take (k + 1)).all (KM.madeCh sg.data.toList) = true) := by
  show _ = _
  rw [KM.take_snoc s k hlt, List.all_append, H.out]; simp [h]
theorem made_not {sg s : ByteArray} {m : Int} {k : Nat} (hlt : k < s.size) (h : KM.madeCh sg.data.toList s[k] = false) : KM.made sg.data.toList m s.data.toList = false := by
  have : s.data.toList.all (KM.madeCh sg.data.toList) = false := by
    rw [List.all_eq_false]
    exact ⟨s[k], by simp [ByteArray.getElem_eq_getElem_data], by simp [h]⟩
  simp [KM.made, this]

set_option maxHeartbeats 2000000 in
theorem madeOf_any (s sg : ByteArray) (m : Int) (hs : s.size ≤ 1000000000000) (hsg : sg.size ≤ 1000) (w : World) : Calls Try.prog 29 #[.string s, .string sg, .int .i64 m] w (SaysBo (KM.made sg.data.toList m s.data.toList) w) := by
  have hsl : s.data.toList.length = s.size := by simp
  go_enter Try.func29, Try.ntmps29
  go_wp2_with fail
  go_loopw [10] (fun i wr => MadeRel sg s w i wr) (fun i _ => s.size - (intOf i).toNat)
  case atStart => exact ⟨0, by omega, rfl, rfl, 0, rfl⟩
  case round =>
    obtain ⟨k, hk, rfl, H, n, rfl⟩ := hrel
    by_cases hlt : k < s.size
    · go_wp2_with fail
      obtain ⟨b, hb⟩ : ∃ b, KM.small s[k] = b := ⟨_, rfl⟩
      refine (small_any _ _ hb _).mono ?_
      rintro e w1 ⟨rfl, n1, rfl⟩
      cases b
      · go_wp2_with fail
        obtain ⟨b, hb2⟩ : ∃ b, KM.digit s[k] = b := ⟨_, rfl⟩
        refine (digit_any _ _ hb2 _).mono ?_
        rintro e w1 ⟨rfl, n1, rfl⟩
        cases b
        · go_wp2_with fail
          obtain ⟨b, hb3⟩ : ∃ b, sg.data.toList.contains s[k] = b := ⟨_, rfl⟩
          refine (ib_any sg s[k] b hb3 (by omega) _).mono ?_
          rintro e w1 ⟨i, hi0, hi1, hi2, hi3, rfl, rfl⟩
          cases b
          · have hi := hi3 rfl
            clear hi2 hi3
            go_wp2_with fail
            go_ret
            exact saysb_of (made_not hlt (by simp only [KM.madeCh, hb, hb2, hb3]; rfl)).symm
          · have hi := hi2 rfl
            clear hi2 hi3
            go_wp2_with fail
            exact ⟨⟨k + 1, by omega, rfl, made_next hlt H (by simp only [KM.madeCh, hb, hb2, hb3]; rfl), _, rfl⟩, by simp [intOf]; omega⟩
        · go_wp2_with fail
          exact ⟨⟨k + 1, by omega, rfl, made_next hlt H (by simp [KM.madeCh, hb2]), _, rfl⟩, by simp [intOf]; omega⟩
      · go_wp2_with fail
        exact ⟨⟨k + 1, by omega, rfl, made_next hlt H (by simp [KM.madeCh, hb]), _, rfl⟩, by simp [intOf]; omega⟩
    · have HA := H.out
      rw [List.take_of_length_le (by omega)] at HA
      have HA := Lib.hid HA
      clear H
      have he : s.toList.isEmpty = s.data.toList.isEmpty := by rw [ByteArray.toList_eq]
      by_cases h0 : 0 < s.size
      · have hne : s.toList.isEmpty = false := by
          rw [he]
          cases h : s.data.toList with
          | nil => rw [h, List.length_nil] at hsl; omega
          | cons _ _ => rfl
        have hne2 : s.data.toList.isEmpty = false := by rw [← he]; exact hne
        clear he
        by_cases hm : (s.size : Int) ≤ m
        · go_wp2_with fail
          go_ret
          exact saysb_of (by simp only [KM.made, hne2, HA.out, hsl]; simp [hm])
        · have hm' : ¬ m ≥ (s.size : Int) := hm
          go_wp2_with fail
          go_ret
          exact saysb_of (by simp only [KM.made, hne2, HA.out, hsl]; simp [hm])
      · have hne : s.toList.isEmpty = true := by
          rw [he]
          cases h : s.data.toList with
          | nil => rfl
          | cons a l => rw [h, List.length_cons] at hsl; omega
        have hne2 : s.data.toList.isEmpty = true := by rw [← he]; exact hne
        clear he
        go_wp2_with fail
        go_ret
        exact saysb_of (by simp only [KM.made, hne2]; rfl)

theorem key_made (l : List UInt8) : KM.key l = (KM.made [45, 95] 40 l && KM.head l) := by
  have e : KM.madeCh [45, 95] = KM.keyCh := funext KM.made_key
  unfold KM.key KM.made
  rw [e]
  have h : decide ((l.length : Int) ≤ 40) = decide (l.length ≤ 40) := by congr 1; simp; omega
  rw [h]
  cases l with
  | nil => simp [KM.head]
  | cons a l => 
    generalize decide ((a :: l).length ≤ 40) = x
    generalize KM.head (a :: l) = y
    generalize (a :: l).all KM.keyCh = z
    cases x <;> cases y <;> cases z <;> rfl

set_option maxHeartbeats 2000000 in
theorem Key_any (s : ByteArray) (hs : s.size ≤ 1000000000000) (w : World) : Calls Try.prog 24 #[.string s] w (SaysBo (KM.key s.data.toList) w) := by
  have hsl : s.data.toList.length = s.size := by simp
  rw [key_made]
  have hM := fun w => madeOf_any s ⟨#[45, 95]⟩ 40 hs (by decide) w
  obtain ⟨b, hb⟩ : ∃ b, KM.made [45, 95] 40 s.data.toList = b := ⟨_, rfl⟩
  have hM' : ∀ w, Calls Try.prog 29 #[.string s, .string ⟨#[45, 95]⟩, .int .i64 40] w (SaysBo b w) := by
    intro w; rw [← hb]; exact hM w
  clear hM
  rw [hb]
  cases b
  · have HB := Lib.hid hb
    clear hb
    go_enter Try.func24, Try.ntmps24
    go_wp2_with fail
    refine (hM' _).mono ?_
    rintro e w1 ⟨rfl, n1, rfl⟩
    go_wp2_with fail
    go_ret
    exact saysb_of rfl
  · have h0 : 0 < s.size := by
      rcases Nat.eq_zero_or_pos s.size with h | h
      · have : s.data.toList = [] := List.eq_nil_of_length_eq_zero (by omega)
        rw [this] at hb; cases hb
      · exact h
    have hhd : KM.head s.data.toList = KM.small s[0] := by
      cases h : s.data.toList with
      | nil => rw [h, List.length_nil] at hsl; omega
      | cons a l =>
        have : s[0] = a := by
          have := KM.take_snoc s 0 h0
          rw [h] at this; simpa using this.symm
        rw [this]; rfl
    clear hb
    rw [hhd]
    obtain ⟨b, hb⟩ : ∃ b, KM.small s[0] = b := ⟨_, rfl⟩
    rw [hb]
    clear hhd
    go_enter Try.func24, Try.ntmps24
    go_wp2_with fail
    refine (hM' _).mono ?_
    rintro e w1 ⟨rfl, n1, rfl⟩
    go_wp2_with fail
    refine (small_any _ _ hb _).mono ?_
    rintro e w1 ⟨rfl, n2, rfl⟩
    go_wp2_with fail
    go_ret
    exact ⟨by simp, n1 + n2, by simp⟩
end Go.Proofs.Ytcpneokkhjffeaa
