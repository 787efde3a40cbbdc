/- Contracts of the reference's in, only, Key; of Moment and the words of kinds. -/
import Derived.Test.YthhfbcddjnjllaaGreatDoorKey
import Derived.Test.YthhfbcddjnjllaaGreatDoorShelf
import Derived.Test.YthhfbcddjnjllaaGreatDoorQM
namespace Go.Proofs.YthhfbcddjnjllaaGreatDoor
open Go.RowKit

theorem dw_all (p : UInt8 → Bool) (l : List UInt8) (h : (l.dropWhile p).all p = true) : l.all p = true := by
  induction l with
  | nil => rfl
  | cons a l ih =>
    cases hp : p a
    · rw [List.dropWhile_cons_of_neg (by simp [hp])] at h; exact h
    · rw [List.dropWhile_cons_of_pos hp] at h; simp [hp]; simpa using ih h
theorem dw_nil (p : UInt8 → Bool) (l : List UInt8) : (l.dropWhile p).isEmpty = l.all p := by
  induction l with
  | nil => rfl
  | cons a l ih =>
    cases hp : p a
    · rw [List.dropWhile_cons_of_neg (by simp [hp])]; simp [hp]
    · rw [List.dropWhile_cons_of_pos hp, ih]; simp [hp]
theorem trim_nil (l cs : List UInt8) : (Lib.trimS l cs).isEmpty = l.all (cs.contains ·) := by
  unfold Lib.trimS Lib.trimLeftS Lib.trimRightS
  rw [dw_nil]
  rw [List.all_reverse]
  cases h : l.all (cs.contains ·)
  · cases h2 : (l.reverse.dropWhile (cs.contains ·)).all (cs.contains ·)
    · rfl
    · have := dw_all _ _ h2
      rw [List.all_reverse, h] at this; cases this
  · have : l.reverse.dropWhile (cs.contains ·) = [] := by
      have := dw_nil (cs.contains ·) l.reverse
      rw [List.all_reverse, h] at this
      simpa using this
    rw [this]; rfl

/-- a bool is answered; what was there has not changed -/
def SaysK (b : Bool) (w : World) (e : Ending) (w' : World) : Prop := e = .returned (.bool b) ∧ Below w.heap.size w w'
theorem saysk_of {b c : Bool} {w w' : World} (h : Below w.heap.size w w') (hb : c = b) : SaysK b w (.returned (.bool c)) w' := ⟨by rw [hb], h⟩

theorem only_any (s t : ByteArray) (b : Bool) (hb : s.data.toList.all (t.data.toList.contains ·) = b) (hs : s.size ≤ 1000000000000) (ht : t.size < 4294967281) (ha : t.data.toList.all (fun b => decide (b.toNat < 128)) = true) (w : World) :
    Calls Tryz.prog 127 #[.string s, .string t] w (SaysK b w) := by
  have hT := Any.strings_Trim_laid Tryz.lays160 (by kernel_rfl) s t w (by omega) ht (ascii_of_all ha)
  have he := trim_nil s.data.toList t.data.toList
  rw [hb] at he
  clear hb
  revert hT he
  generalize Lib.trimS s.data.toList t.data.toList = R
  intro hT he
  have hR : (⟨R.toArray⟩ : ByteArray).toList.isEmpty = b := by rw [ByteArray.toList_eq]; simpa using he
  go_enter Tryz.func127, Tryz.ntmps127
  go_wp2_with fail
  refine hT.mono ?_
  rintro e w1 ⟨rfl, hw⟩
  cases b
  · go_wp2_with fail
    go_ret
    exact saysk_of hw rfl
  · go_wp2_with fail
    go_ret
    exact saysk_of hw rfl

theorem in_any (n lo hi : Int) (b : Bool) (hb : (decide (lo ≤ n) && decide (n ≤ hi)) = b) (w : World) : Calls Tryz.prog 74 #[.int .i64 n, .int .i64 lo, .int .i64 hi] w (SaysBo b w) := by
  by_cases h1 : lo ≤ n
  · by_cases h2 : n ≤ hi
    · go_enter Tryz.func74, Tryz.ntmps74
      go_wp2_with fail
      go_ret
      exact saysb_of0 (by rw [← hb]; simp [h1, h2])
    · go_enter Tryz.func74, Tryz.ntmps74
      go_wp2_with fail
      go_ret
      exact saysb_of0 (by rw [← hb]; simp [h1, h2])
  · go_enter Tryz.func74, Tryz.ntmps74
    go_wp2_with fail
    go_ret
    exact saysb_of0 (by rw [← hb]; simp; omega)

def KM.moment (n : Int) : Bool := decide (0 ≤ n) && decide (n < 5761440)
theorem Moment_any (n : Int) (b : Bool) (hb : KM.moment n = b) (w : World) : Calls Tryz.prog 80 #[.int .i64 n] w (SaysBo b w) := by
  unfold KM.moment at hb
  by_cases h1 : 0 ≤ n
  · by_cases h2 : n < 5761440
    · go_enter Tryz.func80, Tryz.ntmps80
      go_wp2_with fail
      go_ret
      exact saysb_of0 (by rw [← hb]; simp [h1, h2])
    · go_enter Tryz.func80, Tryz.ntmps80
      go_wp2_with fail
      go_ret
      exact saysb_of0 (by rw [← hb]; simp [h1, h2])
  · go_enter Tryz.func80, Tryz.ntmps80
    go_wp2_with fail
    go_ret
    exact saysb_of0 (by rw [← hb]; simp; omega)

def KM.letters : List UInt8 := [97, 98, 99, 100, 101, 102, 103, 104, 105, 106, 107, 108, 109, 110, 111, 112, 113, 114, 115, 116, 117, 118, 119, 120, 121, 122]
def KM.chars : List UInt8 := [97, 98, 99, 100, 101, 102, 103, 104, 105, 106, 107, 108, 109, 110, 111, 112, 113, 114, 115, 116, 117, 118, 119, 120, 121, 122, 48, 49, 50, 51, 52, 53, 54, 55, 56, 57, 45, 95]
theorem letters_small : ∀ c : UInt8, KM.letters.contains c = KM.small c := by apply QM.all_u8; decide +kernel
theorem chars_key : ∀ c : UInt8, KM.chars.contains c = KM.keyCh c := by apply QM.all_u8; decide +kernel
theorem all_chars (l : List UInt8) : l.all (KM.chars.contains ·) = l.all KM.keyCh := by
  congr 1; funext c; exact chars_key c
theorem head_only (s : ByteArray) (h0 : 0 < s.size) : (s.extract 0 1).data.toList.all (KM.letters.contains ·) = KM.head s.data.toList := by
  have hsl : s.data.toList.length = s.size := by simp
  rw [ByteArray.data_extract, Array.toList_extract, List.extract_eq_take_drop, List.drop_zero]
  cases h : s.data.toList with
  | nil => rw [h, List.length_nil] at hsl; omega
  | cons a l => show ([a] : List UInt8).all _ = _; rw [List.all_cons, letters_small]; simp [KM.head]

theorem RKey_any (s : ByteArray) (hs : s.size ≤ 1000000000000) (w : World) : Calls Tryz.prog 65 #[.string s] w (SaysK (KM.key s.data.toList) w) := by
  have hsl : s.data.toList.length = s.size := by simp
  by_cases h0 : 0 < s.size
  · by_cases h40 : s.size ≤ 40
    · go_enter Tryz.func65, Tryz.ntmps65
      go_wp2_with fail
      refine (in_any _ _ _ true (by simp; omega) _).mono ?_
      rintro e w1 ⟨rfl, n1, rfl⟩
      go_wp2_with fail
      obtain ⟨b, hb⟩ : ∃ b, KM.head s.data.toList = b := ⟨_, rfl⟩
      refine (only_any _ _ b ((head_only s h0).trans hb) (by simp; omega) (by decide) (by decide) _).mono ?_
      rintro e w1 ⟨rfl, hw1⟩
      have hw1' := (below_drewN (Below.refl w.heap.size w) n1).trans hw1
      cases b
      · go_wp2_with fail
        go_ret
        exact saysk_of hw1' (by simp [KM.key, hb])
      · go_wp2_with fail
        obtain ⟨b, hb2⟩ : ∃ b, s.data.toList.all KM.keyCh = b := ⟨_, rfl⟩
        refine (only_any _ _ b ((all_chars _).trans hb2) (by omega) (by decide) (by decide) _).mono ?_
        rintro e w2 ⟨rfl, hw2⟩
        have hw2' := hw1'.trans (hw2.mono hw1'.size)
        cases b
        · go_wp2_with fail
          go_ret
          exact saysk_of hw2' (by simp [KM.key, hb2])
        · go_wp2_with fail
          go_ret
          exact saysk_of hw2' (by simp [KM.key, hb, hb2]; omega)
    · go_enter Tryz.func65, Tryz.ntmps65
      go_wp2_with fail
      refine (in_any _ _ _ false (by simp; omega) _).mono ?_
      rintro e w1 ⟨rfl, n1, rfl⟩
      go_wp2_with fail
      go_ret
      exact saysk_of (below_drewN (Below.refl _ _) _) (by simp [KM.key]; omega)
  · go_enter Tryz.func65, Tryz.ntmps65
    go_wp2_with fail
    refine (in_any _ _ _ false (by simp; omega) _).mono ?_
    rintro e w1 ⟨rfl, n1, rfl⟩
    go_wp2_with fail
    go_ret
    refine saysk_of (below_drewN (Below.refl _ _) _) ?_
    cases h : s.data.toList with
    | nil => rfl
    | cons a l => rw [h, List.length_cons] at hsl; omega
end Go.Proofs.YthhfbcddjnjllaaGreatDoor
