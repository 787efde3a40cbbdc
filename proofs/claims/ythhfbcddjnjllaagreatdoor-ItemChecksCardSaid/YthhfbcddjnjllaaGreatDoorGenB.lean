/- Contracts of itemId and ItemText. -/
import Derived.Test.YthhfbcddjnjllaaGreatDoorGenA
namespace Go.Proofs.YthhfbcddjnjllaaGreatDoor
open Go.RowKit

def idS (i : Int) : ByteArray := { data := #[105] } ++ Utf8.encode (97 + i / 26 % 26) ++ Utf8.encode (97 + i % 26)
theorem idS_size (i : Int) : (idS i).size ≤ 9 := by
  have e1 := encode_size_le (97 + i / 26 % 26)
  have e2 := encode_size_le (97 + i % 26)
  have e0 : (⟨#[105]⟩ : ByteArray).size = 1 := rfl
  unfold idS
  simp only [ByteArray.size_append]
  omega
set_option maxHeartbeats 400000 in
theorem itemId_any (i : Int) (h0 : 0 ≤ i) (h1 : i ≤ 1000000000000) (w : World) : Calls Tryz.prog 69 #[.int .i64 i] w (fun e w' => e = .returned (.string (idS i)) ∧ w' = w) := by
  have e1 := encode_size_le (97 + i / 26 % 26)
  have e2 := encode_size_le (97 + i % 26)
  go_enter Tryz.func69, Tryz.ntmps69
  go_wp2_with fail
  go_ret
  exact ⟨rfl, rfl⟩

def ItemTextRel (B g k : Nat) (w : World) (o i : Value) (wr : World) : Prop := ∃ (s : ByteArray) (j : Nat), o = .string s ∧ i = .int .i64 j ∧ j ≤ 3 ∧ s.size ≤ 200 * j ∧ (∃ k', k' ≤ k + 20 * j ∧ Strm wr B g k') ∧ w.grownBy wr (some g)
def ItemTextRel2 (B g k : Nat) (w : World) (j : Nat) (o i : Value) (wr : World) : Prop := ∃ (s : ByteArray) (l : Nat), o = .string s ∧ i = .int .i64 l ∧ l ≤ 6 ∧ s.size ≤ 200 * j + 30 * l ∧ (∃ k', k' ≤ k + 20 * j + 1 + 2 * l ∧ Strm wr B g k') ∧ w.grownBy wr (some g)
def wordV : List Value := [.string ⟨#[100, 101, 97, 108]⟩, .string ⟨#[68, 101, 97, 108]⟩, .string ⟨#[115, 105, 103, 110]⟩, .string ⟨#[115, 105, 103, 110, 101, 100]⟩, .string ⟨#[116, 104, 101]⟩, .string ⟨#[102, 114, 105, 100, 97, 121]⟩, .string ⟨#[99, 111, 110, 116, 114, 97, 99, 116]⟩, .string ⟨#[120, 49]⟩, .string ⟨#[99, 97, 102, 195, 169]⟩, .string ⟨#[97, 110, 100]⟩]
def sepV : List Value := [.string ⟨#[32]⟩, .string ⟨#[32]⟩, .string ⟨#[32]⟩, .string ⟨#[44, 32]⟩, .string ⟨#[45]⟩]
set_option maxHeartbeats 2000000 in
theorem ItemText_any (B g k : Nat) (hk : k < 100000000000) (w : World) (hs : Strm w B g k) :
    Calls Tryz.prog 71 #[.pointer (some ⟨g, 0, none⟩)] w (TookS 700 B g (k + 100) w) := by
  have hlt := hs.lt
  go_enter Tryz.func71, Tryz.ntmps71
  go_wp2_with fail
  have hP := fun t => pick_any 5 [.int .i64 0, .int .i64 1, .int .i64 1, .int .i64 2, .int .i64 3] 0 3 w.heap.size t B g k _ (hs.alloc _) (heap_alloc_new w _) rfl (by omega) (by omega) (by decide) (by omega) (by omega)
  refine (hP _).mono ?_
  clear hP
  rintro e w1 ⟨r, hr1, hr2, rfl, ⟨k1, hk1, hs1⟩, hg1⟩
  obtain ⟨n, rfl⟩ := Int.eq_ofNat_of_zero_le hr1
  replace hg1 := (World.grownBy_alloc w _ (some g)).trans hg1
  go_wp2_with fail
  go_loopw [3, 8] (fun o i wr => ItemTextRel B g (k + 1) w o i wr) (fun _ i _ => 3 - (intOf i).toNat)
  case atStart => exact ⟨_, 0, rfl, rfl, by omega, Nat.le_refl _, ⟨k1, by omega, hs1⟩, hg1⟩
  case round =>
    obtain ⟨s, j, rfl, rfl, hj, hsz, ⟨k2, hk2, hsr⟩, hgr⟩ := hrel
    by_cases hln : (j : Int) < (n : Int)
    · go_wp2_with fail
      refine (Range_any _ _ (by omega) (by omega) (by omega) B g k2 (by omega) _ hsr).mono ?_
      rintro e w2 ⟨r, hr3, hr4, rfl, hs2, hg2⟩
      obtain ⟨m, rfl⟩ := Int.eq_ofNat_of_zero_le hr3
      replace hg2 := hgr.trans hg2
      go_wp2_with fail
      go_loopw [3, 12] (fun o i wr => ItemTextRel2 B g (k + 1) w j o i wr) (fun _ i _ => 6 - (intOf i).toNat)
      case atStart => exact ⟨_, 0, rfl, rfl, by omega, by omega, ⟨k2 + 1, by omega, hs2⟩, hg2⟩
      case round =>
        obtain ⟨s, l, rfl, rfl, hl, hsz, ⟨k3, hk3, hsr⟩, hgr⟩ := hrel
        by_cases hlm : (l : Int) < (m : Int)
        · have hrl := hsr.lt
          by_cases hl0 : 0 < (l : Int)
          · go_wp2_with fail
            refine (some10_new 5 sepV 2 _ B g k3 wr hsr rfl (by omega) (by omega) (by decide) (by omega)).mono ?_
            rintro e w3 ⟨u, hu, rfl, ⟨k4, hk4, hs3⟩, hg3⟩
            go_wp2_with fail
            refine (some10_new 10 wordV 8 _ B g k4 w3 hs3 rfl (by omega) (by omega) (by decide) (by omega)).mono ?_
            rintro e w4 ⟨v, hv, rfl, ⟨k5, hk5, hs4⟩, hg4⟩
            go_wp2_with fail
            refine ⟨⟨_, l + 1, rfl, rfl, by omega, ?_, ⟨k5, by omega, hs4⟩, (hgr.trans hg3).trans hg4⟩, by simp [intOf]; omega⟩
            simp only [ByteArray.size_append]; omega
          · go_wp2_with fail
            refine (some10_new 10 wordV 8 _ B g k3 wr hsr rfl (by omega) (by omega) (by decide) (by omega)).mono ?_
            rintro e w4 ⟨v, hv, rfl, ⟨k5, hk5, hs4⟩, hg4⟩
            go_wp2_with fail
            refine ⟨⟨_, l + 1, rfl, rfl, by omega, ?_, ⟨k5, by omega, hs4⟩, hgr.trans hg4⟩, by simp [intOf]; omega⟩
            simp only [ByteArray.size_append]; omega
        · go_wp2_with fail
          refine ⟨⟨_, j + 1, rfl, rfl, by omega, ?_, ⟨k3, by omega, hsr⟩, hgr⟩, by simp [intOf]; omega⟩
          have e0 : (⟨#[10]⟩ : ByteArray).size = 1 := rfl
          simp only [ByteArray.size_append]; omega
    · go_wp2_with fail
      go_ret
      exact tookS_of (by omega) hsr (by omega) hgr
end Go.Proofs.YthhfbcddjnjllaaGreatDoor
