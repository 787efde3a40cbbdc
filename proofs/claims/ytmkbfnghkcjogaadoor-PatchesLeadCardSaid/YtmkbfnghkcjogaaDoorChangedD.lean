/- Contract of the maker Changed, with a small bound. -/
import Derived.Test.YtmkbfnghkcjogaaDoorTook0
namespace Go.Proofs.YtmkbfnghkcjogaaDoor
open Go.RowKit

set_option maxHeartbeats 1000000 in
theorem ChangedD_nil (t d : ByteArray) (m D : Nat) (hd : d.size ≤ D) (B g k : Nat) (w : World) (hs : Strm w B g k) (h1 : t.toList = []) :
    Calls Tryd.prog 5 #[.pointer (some ⟨g, 0, none⟩), .string t, .string d] w (TookS (m + D) B g (k + 3) w) := by
  go_enter Tryd.func5, Tryd.ntmps5
  go_wp2_with fail
  go_ret
  exact ⟨_, by omega, rfl, ⟨k, by omega, hs⟩, World.grownBy.refl _ _⟩

set_option maxHeartbeats 1000000 in
theorem ChangedD_some (t d : ByteArray) (m D : Nat) (ht : t.size ≤ m) (hd : d.size ≤ D) (hD : 4 ≤ D ∧ D ≤ 1000) (hm : m ≤ 1000000000) (B g k : Nat) (hk : k < 100000000000) (w : World) (hs : Strm w B g k)
    (h1 : (t.toList.isEmpty) = false) (h2 : (d.toList.isEmpty) = false) (hp1 : 0 < t.size) (hp2 : 0 < d.size) :
    Calls Tryd.prog 5 #[.pointer (some ⟨g, 0, none⟩), .string t, .string d] w (TookS (m + D) B g (k + 3) w) := by
  obtain ⟨hD1, hD2⟩ := hD
  go_enter Tryd.func5, Tryd.ntmps5
  go_wp2_with fail
  refine (Next_any _ (by omega) (by omega) B g k (by omega) _ hs).mono ?_
  rintro e w1 ⟨r, hr1, hr2, rfl, hs1, hg1⟩
  obtain ⟨i, rfl⟩ := Int.eq_ofNat_of_zero_le hr1
  go_wp2_with fail
  refine (Next_any _ (by omega) (by omega) B g (k + 1) (by omega) _ hs1).mono ?_
  rintro e w2 ⟨r, hr3, hr4, rfl, hs2, hg2⟩
  obtain ⟨j, rfl⟩ := Int.eq_ofNat_of_zero_le hr3
  go_wp2_with fail
  refine (Next_any _ (by omega) (by omega) B g (k + 2) (by omega) _ hs2).mono ?_
  rintro e w3 ⟨r, hr5, hr6, rfl, hs3, hg3⟩
  go_wp2_with fail
  all_goals have hb : d[j].toNat < 256 := UInt8.toNat_lt _
  all_goals have hu := encode_size_le (d[j].toNat : Int)
  all_goals go_quiet (fail)
  all_goals go_wp2_with fail
  all_goals go_ret
  all_goals refine ⟨_, ?_, rfl, ⟨k + 3, by omega, hs3.drewN _⟩, only_drewN ((hg1.trans hg2).trans hg3) _⟩
  all_goals (simp only [ByteArray.size_append, ByteArray.size_extract]; omega)
theorem ChangedD_any (t d : ByteArray) (m D : Nat) (ht : t.size ≤ m) (hd : d.size ≤ D) (hD : 4 ≤ D ∧ D ≤ 1000) (hm : m ≤ 1000000000) (h2 : (d.toList.isEmpty) = false) (hp2 : 0 < d.size) (B g k : Nat) (hk : k < 100000000000) (w : World) (hs : Strm w B g k) :
    Calls Tryd.prog 5 #[.pointer (some ⟨g, 0, none⟩), .string t, .string d] w (TookS (m + D) B g (k + 3) w) := by
  by_cases h : t.toList = []
  · exact ChangedD_nil t d m D hd B g k w hs h
  · have h1 : t.toList.isEmpty = false := by simpa using h
    have hp : 0 < t.size := by
      rcases Nat.eq_zero_or_pos t.size with e | e
      · exact absurd (by rw [ByteArray.toList_eq]; exact List.eq_nil_of_length_eq_zero (by simpa using e)) h
      · exact e
    exact ChangedD_some t d m D ht hd hD hm B g k hk w hs h1 h2 hp hp2
end Go.Proofs.YtmkbfnghkcjogaaDoor
