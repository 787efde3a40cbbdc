/- Contract of the reference's lower. -/
import Derived.Test.YtopdpooflihlpaaDoorSmall0
import Derived.Test.YtopdpooflihlpaaDoorLay137
import Derived.Shelf.Small.Strs
namespace WM
def capital : ByteArray := ⟨#[65, 66, 67, 68, 69, 70, 71, 72, 73, 74, 75, 76, 77, 78, 79, 80, 81, 82, 83, 84, 85, 86, 87, 88, 89, 90]⟩
def smalls : ByteArray := ⟨#[97, 98, 99, 100, 101, 102, 103, 104, 105, 106, 107, 108, 109, 110, 111, 112, 113, 114, 115, 116, 117, 118, 119, 120, 121, 122]⟩
theorem cap_yes : ∀ c : UInt8, 65 ≤ c.toNat → c.toNat ≤ 90 → Go.Lib.indexByte capital.data.toList c = (c.toNat : Int) - 65 := by apply all_u8; decide +kernel
theorem cap_no : ∀ c : UInt8, ¬ (65 ≤ c.toNat ∧ c.toNat ≤ 90) → Go.Lib.indexByte capital.data.toList c = -1 := by apply all_u8; decide +kernel
theorem smalls_at : ∀ c : UInt8, 65 ≤ c.toNat → c.toNat ≤ 90 → (smalls[((c.toNat : Int) - 65).toNat]?) = some (smallB c) := by apply all_u8; decide +kernel
end WM
namespace Go.Proofs.YtopdpooflihlpaaDoor
open Go.RowKit

theorem idc_yes (c : UInt8) (h1 : 65 ≤ c.toNat) (h2 : c.toNat ≤ 90) (w : World) : Calls Tryd.prog 41 #[.string ⟨#[65, 66, 67, 68, 69, 70, 71, 72, 73, 74, 75, 76, 77, 78, 79, 80, 81, 82, 83, 84, 85, 86, 87, 88, 89, 90]⟩, .int .u8 c.toNat] w fun e w' => e = .returned (.int .i64 ((c.toNat : Int) - 65)) ∧ w = w' := by
  refine (Any.strings_IndexByte Tryd.lays137 WM.capital c.toNat w).mono ?_
  rintro e w' ⟨rfl, rfl⟩
  have e1 : ((c.toNat : Int).toNat).toUInt8 = c := by simp
  rw [e1, WM.cap_yes c h1 h2]
  exact ⟨rfl, rfl⟩
theorem idc_no (c : UInt8) (h : ¬ (65 ≤ c.toNat ∧ c.toNat ≤ 90)) (w : World) : Calls Tryd.prog 41 #[.string ⟨#[65, 66, 67, 68, 69, 70, 71, 72, 73, 74, 75, 76, 77, 78, 79, 80, 81, 82, 83, 84, 85, 86, 87, 88, 89, 90]⟩, .int .u8 c.toNat] w fun e w' => e = .returned (.int .i64 (-1)) ∧ w = w' := by
  refine (Any.strings_IndexByte Tryd.lays137 WM.capital c.toNat w).mono ?_
  rintro e w' ⟨rfl, rfl⟩
  have e1 : ((c.toNat : Int).toNat).toUInt8 = c := by simp
  rw [e1, WM.cap_no c h]
  exact ⟨rfl, rfl⟩

theorem idx_run (c : UInt8) (h1 : 65 ≤ c.toNat) (h2 : c.toNat ≤ 90) (w : World) : (Instr.index 9 (.string ⟨#[97, 98, 99, 100, 101, 102, 103, 104, 105, 106, 107, 108, 109, 110, 111, 112, 113, 114, 115, 116, 117, 118, 119, 120, 121, 122]⟩) (.int .i64 ((c.toNat : Int) - 65))).run Tryd.prog w = .ok (.int .u8 ((WM.smallB c).toNat : Nat)) w := by
  have hi : 0 ≤ (c.toNat : Int) - 65 ∧ (c.toNat : Int) - 65 < (WM.smalls.size : Int) := by rw [show WM.smalls.size = 26 by decide +kernel]; omega
  have hs : ((c.toNat : Int) - 65).toNat < WM.smalls.size := by omega
  have ha := WM.smalls_at c h1 h2
  rw [ByteArray.getElem?_lt' _ _ hs] at ha
  have ha := Option.some.inj ha
  refine (run_index_string w 9 WM.smalls .i64 _ Tryd.underlying9).trans ?_
  rw [dif_pos hi, ha]
set_option maxRecDepth 100000 in
set_option maxHeartbeats 1000000 in
theorem lower_any (s : ByteArray) (hs : s.size ≤ 1000000000000) (w : World) : Calls Tryd.prog 26 #[.string s] w (SaysNew (WM.small s) w) := by
  obtain ⟨W, cap, hconv, hbW, hgW, hrow⟩ := conv_row s w
  skip
  go_enter Tryd.func26, Tryd.ntmps26
  go_wp2_with fail
  go_loopw [11] (fun i wr => SmRel w s i wr) (fun i _ => s.size - (intOf i).toNat)
  case atStart => exact ⟨0, Nat.zero_le _, rfl, hrow, hbW, hgW⟩
  case round =>
    obtain ⟨k, hk, rfl, hr, hb, hg⟩ := hrel
    by_cases hlt : k < s.size
    · have hu := WM.get_list s k hlt
      generalize s.get! k = u at hu
      obtain ⟨hc, hf⟩ := hr k u hu
      rw [if_neg (by omega)] at hc
      have HH := Lib.hid (And.intro hu (And.intro hr (And.intro hb hg)))
      clear hu hr hb hg hrow hbW hgW hconv
      by_cases h1 : 65 ≤ u.toNat ∧ u.toNat ≤ 90
      · have hI := idc_yes u h1.1 h1.2
        have hR := idx_run u h1.1 h1.2
        have hn : 0 ≤ (u.toNat : Int) - 65 := by omega
        clear h1
        go_wp2_with fail
        refine (hI _).mono ?_
        rintro e w' ⟨rfl, rfl⟩
        go_wp2_with fail
        exact ⟨⟨k + 1, by omega, by simp, HH.out.2.1.yes HH.out.1 rfl, HH.out.2.2.1.setCell (Nat.le_refl _) _, by simpa using HH.out.2.2.2⟩, by simp [intOf]; omega⟩
      · have hI := idc_no u h1
        have HS := Lib.hid (small_same u h1)
        clear h1
        go_wp2_with fail
        refine (hI _).mono ?_
        rintro e w' ⟨rfl, rfl⟩
        go_wp2_with fail
        exact ⟨⟨k + 1, by omega, by simp, HH.out.2.1.no HH.out.1 HS.out, HH.out.2.2.1, HH.out.2.2.2⟩, by simp [intOf]; omega⟩
    · obtain rfl : k = s.size := by omega
      have hcv := hr.str cap
      go_wp2_with fail
      go_ret
      exact ⟨rfl, hb⟩
end Go.Proofs.YtopdpooflihlpaaDoor
