/- Contract of the maker Changed. -/
import Derived.Test.YthgembgincaapaaTook0
namespace Go.Proofs.Ythgembgincaapaa
open Go.RowKit

set_option maxHeartbeats 1000000 in
theorem Changed_nil (t d : ByteArray) (m : Nat) (hd : d.size ≤ 1000) (B g k : Nat) (w : World) (hs : Strm w B g k) (h1 : t.toList = []) :
    Calls Try.prog 6 #[.pointer (some ⟨g, 0, none⟩), .string t, .string d] w (TookS (m + 1000) B g (k + 3) w) := by
  go_enter Try.func6, Try.ntmps6
  go_wp2_with fail
  go_ret
  exact ⟨_, by omega, rfl, ⟨k, by omega, hs⟩, World.grownBy.refl _ _⟩

set_option maxHeartbeats 1000000 in
theorem Changed_some (t d : ByteArray) (m : Nat) (ht : t.size ≤ m) (hd : d.size ≤ 1000) (hm : m ≤ 1000000000) (B g k : Nat) (hk : k < 100000000000) (w : World) (hs : Strm w B g k)
    (h1 : (t.toList.isEmpty) = false) (h2 : (d.toList.isEmpty) = false) (hp1 : 0 < t.size) (hp2 : 0 < d.size) :
    Calls Try.prog 6 #[.pointer (some ⟨g, 0, none⟩), .string t, .string d] w (TookS (m + 1000) B g (k + 3) w) := by
  go_enter Try.func6, Try.ntmps6
  go_wp2_with fail
  refine (Next_any _ (by omega) (by omega) B g k (by omega) _ hs).mono ?_
  rintro e w1 ⟨r, hr1, hr2, rfl, hs1, hg1⟩
  obtain ⟨i, rfl⟩ := Int.eq_ofNat_of_zero_le hr1
  go_wp2_with fail
  refine (Next_any _ (by omega) (by omega) B g (k + 1) (by omega) _ hs1).mono ?_
  rintro e w2 ⟨r, hr3, hr4, rfl, hs2, hg2⟩
  obtain ⟨j, rfl⟩ := Int.eq_ofNat_of_zero_le hr3
  go_wp2_with fail
  refine (Next_any _ (by omega) (by omega) B g (k + 2) (by omega) _ hs2).mono ?_
  rintro e w3 ⟨r, hr5, hr6, rfl, hs3, hg3⟩
  go_wp2_with fail
  all_goals have hb : d[j].toNat < 256 := UInt8.toNat_lt _
  all_goals have hu := encode_size_le (d[j].toNat : Int)
  all_goals go_quiet (fail)
  all_goals go_wp2_with fail
  all_goals go_ret
  all_goals refine ⟨_, ?_, rfl, ⟨k + 3, by omega, hs3.drewN _⟩, only_drewN ((hg1.trans hg2).trans hg3) _⟩
  all_goals (simp only [ByteArray.size_append, ByteArray.size_extract]; omega)
end Go.Proofs.Ythgembgincaapaa
