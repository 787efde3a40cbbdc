/- Contracts of strange and Changed: strings of few bytes; of what was there only the stream has turned. -/
import Derived.Test.YthclllebmbmlmaaDoorStream
namespace Go.Proofs.YthclllebmbmlmaaDoor
open Go.RowKit

theorem str_lit (cs : List Value) (p : ByteArray → Bool) (h : cs.all (fun v => match v with | .string u => p u | _ => false) = true) (i : Nat) (hi : i < cs.length) : ∃ u, cs[i]? = some (.string u) ∧ p u = true := by
  have := List.all_eq_true.1 h cs[i] (List.getElem_mem hi)
  rw [List.getElem?_eq_getElem hi]
  revert this
  generalize cs[i] = v
  cases v <;> intro this <;> first | exact ⟨_, rfl, this⟩ | cases this
/-- the cells of a block that was just made, behind a call that may turn block g -/
theorem lit_cell {wr w2 : World} {g : Nat} {cs : List Value} {t : TypeId} (h : (wr.alloc (.cells cs.toArray t)).grownBy w2 (some g)) (hg : g < wr.heap.size) (i : Nat) : w2.cell? ⟨wr.heap.size, i, none⟩ = cs[i]? := by
  rw [cell_of_row w2 wr.heap.size i cs.toArray t (0, 0) ((h.block _ (by simp) (by intro e; injection e; omega)).trans (heap_alloc_new wr _))]
  simp
theorem lit_str {wr w2 : World} {g : Nat} {cs : List Value} {t : TypeId} (h : (wr.alloc (.cells cs.toArray t)).grownBy w2 (some g)) (hg : g < wr.heap.size) (p : ByteArray → Bool)
    (hp : cs.all (fun v => match v with | .string u => p u | _ => false) = true) (i : Nat) (hi : i < cs.length) : ∃ u, w2.cell? ⟨wr.heap.size, i, none⟩ = some (.string u) ∧ p u = true := by
  obtain ⟨u, hu, hp⟩ := str_lit cs p hp i hi
  exact ⟨u, (lit_cell h hg i).trans hu, hp⟩
/-- a string of at most m bytes -/
def TookS (m : Nat) (B g k : Nat) (w : World) (e : Ending) (w' : World) : Prop := ∃ s : ByteArray, s.size ≤ m ∧ e = .returned (.string s) ∧ (∃ k', k' ≤ k ∧ Strm w' B g k') ∧ w.grownBy w' (some g)
def StrangeRel (B g k : Nat) (w : World) (o i : Value) (wr : World) : Prop := ∃ (s : ByteArray) (j : Nat), o = .string s ∧ i = .int .i64 j ∧ j ≤ 8 ∧ s.size ≤ 4 * j ∧ (∃ k', k' ≤ k + j ∧ Strm wr B g k') ∧ w.grownBy wr (some g)

set_option maxHeartbeats 1000000 in
theorem strange_any (B g k : Nat) (hk : k < 100000000000) (w : World) (hs : Strm w B g k) :
    Calls Tryd.prog 4 #[.pointer (some ⟨g, 0, none⟩)] w (TookS 32 B g (k + 9) w) := by
  go_enter Tryd.func4, Tryd.ntmps4
  go_wp2_with fail
  refine (Range_any _ _ (by omega) (by omega) (by omega) B g k (by omega) _ hs).mono ?_
  rintro e w1 ⟨r, hr1, hr2, rfl, hs1, hg1⟩
  obtain ⟨n, rfl⟩ := Int.eq_ofNat_of_zero_le hr1
  go_wp2_with fail
  go_loopw [3, 6] (fun o i wr => StrangeRel B g (k + 1) w o i wr) (fun _ i _ => 8 - (intOf i).toNat)
  case atStart => exact ⟨_, 0, rfl, rfl, by omega, Nat.le_refl _, ⟨k + 1, by omega, hs1⟩, hg1⟩
  case round =>
    obtain ⟨s, j, rfl, rfl, hj, hsz, ⟨k1, hk1, hsr⟩, hgr⟩ := hrel
    by_cases hlt : (j : Int) < (n : Int)
    · go_wp2_with fail
      refine (Next_any _ (by omega) (by omega) B g k1 (by omega) _ (hsr.alloc _)).mono ?_
      rintro e w2 ⟨r, hr1, hr2, rfl, hs2, hg2⟩
      obtain ⟨i, rfl⟩ := Int.eq_ofNat_of_zero_le hr1
      obtain ⟨u, hu, hus⟩ : ∃ u : ByteArray, w2.cell? ⟨wr.heap.size, i, none⟩ = some (.string u) ∧ u.size ≤ 4 := by
        obtain ⟨u, hu, hp⟩ := lit_str hg2 hsr.lt (fun u => decide (u.size ≤ 4)) rfl i (by simp; omega)
        exact ⟨u, hu, of_decide_eq_true hp⟩
      go_wp2_with fail
      exact ⟨⟨_, j + 1, rfl, rfl, by omega, by simp; omega, ⟨k1 + 1, by omega, hs2⟩, hgr.trans ((World.grownBy_alloc _ _ _).trans hg2)⟩, by simp [intOf]; omega⟩
    · go_wp2_with fail
      go_ret
      exact ⟨_, by omega, rfl, ⟨k1, by omega, hsr⟩, hgr⟩

set_option maxHeartbeats 1000000 in
theorem Changed_nil (t d : ByteArray) (m : Nat) (hd : d.size ≤ 1000) (B g k : Nat) (w : World) (hs : Strm w B g k) (h1 : t.toList = []) :
    Calls Tryd.prog 10 #[.pointer (some ⟨g, 0, none⟩), .string t, .string d] w (TookS (m + 1000) B g (k + 3) w) := by
  go_enter Tryd.func10, Tryd.ntmps10
  go_wp2_with fail
  go_ret
  exact ⟨_, by omega, rfl, ⟨k, by omega, hs⟩, World.grownBy.refl _ _⟩

set_option maxHeartbeats 1000000 in
theorem Changed_some (t d : ByteArray) (m : Nat) (ht : t.size ≤ m) (hd : d.size ≤ 1000) (hm : m ≤ 1000000000) (B g k : Nat) (hk : k < 100000000000) (w : World) (hs : Strm w B g k)
    (h1 : (t.toList.isEmpty) = false) (h2 : (d.toList.isEmpty) = false) (hp1 : 0 < t.size) (hp2 : 0 < d.size) :
    Calls Tryd.prog 10 #[.pointer (some ⟨g, 0, none⟩), .string t, .string d] w (TookS (m + 1000) B g (k + 3) w) := by
  go_enter Tryd.func10, Tryd.ntmps10
  go_wp2_with fail
  refine (Next_any _ (by omega) (by omega) B g k (by omega) _ hs).mono ?_
  rintro e w1 ⟨r, hr1, hr2, rfl, hs1, hg1⟩
  obtain ⟨i, rfl⟩ := Int.eq_ofNat_of_zero_le hr1
  go_wp2_with fail
  refine (Next_any _ (by omega) (by omega) B g (k + 1) (by omega) _ hs1).mono ?_
  rintro e w2 ⟨r, hr3, hr4, rfl, hs2, hg2⟩
  obtain ⟨j, rfl⟩ := Int.eq_ofNat_of_zero_le hr3
  go_wp2_with fail
  refine (Next_any _ (by omega) (by omega) B g (k + 2) (by omega) _ hs2).mono ?_
  rintro e w3 ⟨r, hr5, hr6, rfl, hs3, hg3⟩
  go_wp2_with fail
  all_goals have hb : d[j].toNat < 256 := UInt8.toNat_lt _
  all_goals have hu := encode_size_le (d[j].toNat : Int)
  all_goals go_quiet (fail)
  all_goals go_wp2_with fail
  all_goals go_ret
  all_goals refine ⟨_, ?_, rfl, ⟨k + 3, by omega, hs3.drewN _⟩, only_drewN ((hg1.trans hg2).trans hg3) _⟩
  all_goals (simp only [ByteArray.size_append, ByteArray.size_extract]; omega)
end Go.Proofs.YthclllebmbmlmaaDoor
