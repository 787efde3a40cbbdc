/- Contracts of near.hash and the reference's hash64. -/
import Derived.Test.YtplocijdbadcjaaGreatDoorFormat
import Derived.Test.YtplocijdbadcjaaGreatDoorParseH
namespace Go.Proofs.YtplocijdbadcjaaGreatDoor
open Go.RowKit

theorem digest_str (l : List UInt8) : (⟨(QM.digest l).toArray⟩ : ByteArray) = ⟨(QM.hexN 16 (QM.fnv l)).toArray⟩ := rfl
/-- half of the hash -/
def hv (s : ByteArray) : Int := ((QM.fnv s.data.toList / 2 : Nat) : Int)
def SaysH (s : ByteArray) (w : World) (e : Ending) (w' : World) : Prop := e = .returned (.int .i64 (hv s)) ∧ Below w.heap.size w w'
set_option maxHeartbeats 1000000 in
theorem hash_any (s : ByteArray) (hs : s.size ≤ 1000000000) (w : World) (hl : LaidT w) : Calls Tryz.prog 18 #[.string s] w (SaysH s w) := by
  have hD : Calls Tryz.prog 37 #[.string s] w fun e w' => e = .returned (.string ⟨(QM.hexN 16 (QM.fnv s.data.toList)).toArray⟩) ∧ Below w.heap.size w w' := Digest_any s hs w hl
  have hlt := QM.fnv_lt s.data.toList
  have HV : Hid (hv s = ((QM.fnv s.data.toList / 2 : Nat) : Int)) := rfl
  clear hl hs
  generalize QM.fnv s.data.toList = h at *
  have hP := ParseH_any h hlt
  generalize (⟨(QM.hexN 16 h).toArray⟩ : ByteArray) = d at *
  go_enter Tryz.func18, Tryz.ntmps18
  go_wp2_with fail
  refine hD.mono ?_
  rintro e w1 ⟨rfl, hb1⟩
  clear hD
  go_wp2_with fail
  refine (hP _).mono ?_
  rintro e w2 ⟨rfl, hb2⟩
  clear hP
  go_wp2_with fail
  go_ret
  exact ⟨by rw [HV.out]; congr 2, hb1.trans (hb2.mono hb1.size)⟩
set_option maxRecDepth 100000 in
set_option maxHeartbeats 1000000 in
theorem hash64_any (s : ByteArray) (hs : s.size ≤ 1000000000) (w : World) : Calls Tryz.prog 22 #[.string s] w fun e w' => e = .returned (.int .u64 (QM.fnv s.data.toList : Nat)) ∧ ∃ q, w' = w.drewN q := by
  go_enter Tryz.func22, Tryz.ntmps22
  go_wp2_with fail
  go_loop [3, 4] (fun h i => FnvRel s h i) (fun _ i => s.size - (intOf i).toNat)
  case atStart => exact ⟨0, 14695981039346656037, by omega, rfl, rfl, by show _ = _; rw [List.take_zero, QM.fnv_nil]⟩
  case round =>
    obtain ⟨k, H, hk, rfl, rfl, HH⟩ := hrel
    by_cases hlt : k < s.size
    · go_wp2_with fail
      refine ⟨⟨k + 1, _, by omega, rfl, congrArg (Value.int .u64) (fnv_prog H (fnv_hlt HH) _), fnv_next hlt HH⟩, by simp [intOf]; omega⟩
    · have HF : Hid (H = QM.fnv s.data.toList) := by show _ = _; rw [HH.out, List.take_of_length_le (by simp; omega)]
      clear HH
      go_wp2_with fail
      go_ret
      exact ⟨by rw [HF.out]; rfl, 0, rfl⟩
end Go.Proofs.YtplocijdbadcjaaGreatDoor
