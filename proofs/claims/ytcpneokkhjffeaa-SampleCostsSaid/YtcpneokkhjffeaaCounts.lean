/- Contract of sample.areCounts. -/
import Derived.Test.YtcpneokkhjffeaaBlk
import Derived.IntWalk
namespace Go.Proofs.Ytcpneokkhjffeaa
open Go.RowKit

theorem Blk.of_drewN {w w' : World} {g : Nat} {t : TypeId} {cs : Array Value} (h : Blk w g t cs) (hq : ∃ q, w' = w.drewN q) : Blk w' g t cs := by obtain ⟨q, rfl⟩ := hq; exact h.drewN q
theorem below_of_drewN {B : Nat} {a w w' : World} (h : Below B a w) (hq : ∃ q, w' = w.drewN q) : Below B a w' := by obtain ⟨q, rfl⟩ := hq; exact below_drewN h q
def AcRel (f : Nat → Int) (n : Nat) (w : World) (i : Value) (wr : World) : Prop := ∃ k : Nat, i = .int .i64 k ∧ k ≤ n ∧ Hid (∀ j, j < k → 0 ≤ f j ∧ f j ≤ 1000000) ∧ ∃ q, wr = w.drewN q
set_option maxHeartbeats 4000000 in
theorem areCounts_any {w : World} {g n c : Nat} (f : Nat → Int) (hf : ∀ j, j < n → w.cell? ⟨g, j, none⟩ = some (.int .i64 (f j))) (hn : n ≤ 100) (b : Bool) (hb : (∀ j, j < n → 0 ≤ f j ∧ f j ≤ 1000000) ↔ b = true) :
    Calls Try.prog 15 #[.slice (some ⟨g, 0, none⟩) n c] w (fun e w' => e = .returned (.bool b) ∧ ∃ q, w' = w.drewN q) := by
  have HB := Lib.hid hb
  have HF := Lib.hid hf
  clear hb hf
  go_enter Try.func15, Try.ntmps15
  go_wp2_with fail
  go_loopw [7] (fun i wr => AcRel f n w i wr) (fun i _ => n - (intOf i).toNat)
  case atStart => exact ⟨0, rfl, Nat.zero_le _, Lib.hid (fun j hj => absurd hj (by omega)), 0, rfl⟩
  case round =>
    obtain ⟨k, rfl, hk, HK, q, hq⟩ := hrel
    have HQ := Lib.hid hq
    by_cases hlt : k < n
    · have hc : wr.cell? ⟨g, k, none⟩ = some (.int .i64 (f k)) := by rw [hq]; exact HF.out k hlt
      clear hq
      by_cases h1 : f k < 0
      · have q1 : decide (f k < 0) = true := decide_eq_true h1
        obtain rfl : b = false := by
          cases b
          · rfl
          · have := HB.out.2 rfl k hlt; omega
        clear h1
        generalize f k = z at *
        go_wp2_with fail
        go_ret
        exact ⟨rfl, q, HQ.out⟩
      · have q1 : decide (f k < 0) = false := decide_eq_false h1
        by_cases h2 : 1000000 < f k
        · have q2 : decide (1000000 < f k) = true := decide_eq_true h2
          obtain rfl : b = false := by
            cases b
            · rfl
            · have := HB.out.2 rfl k hlt; omega
          clear h1 h2
          generalize f k = z at *
          go_wp2_with fail
          go_ret
          exact ⟨rfl, q, HQ.out⟩
        · have q2 : decide (1000000 < f k) = false := decide_eq_false h2
          have HK2 := Lib.hid (show ∀ j, j < k + 1 → 0 ≤ f j ∧ f j ≤ 1000000 from fun j hj => by
            rcases Nat.lt_or_ge j k with h | h
            · exact HK.out j h
            · obtain rfl : j = k := by omega
              omega)
          clear h1 h2
          generalize f k = z at *
          go_wp2_with fail
          exact ⟨⟨k + 1, by simp, by omega, HK2, q, HQ.out⟩, by simp [intOf]; omega⟩
    · have hkn : ¬ ((k : Int) < (n : Int)) := by omega
      obtain rfl : b = true := HB.out.1 (fun j hj => HK.out j (by omega))
      clear hq
      go_wp2_with fail
      go_ret
      exact ⟨rfl, q, HQ.out⟩
theorem lit_ints (w : World) (l : List Int) (t : TypeId) (f : Nat → Int) (hl : ∀ j z, l[j]? = some z → f j = z) : ∀ j, j < l.length → (w.alloc (.cells (l.map (Value.int .i64)).toArray t)).cell? ⟨w.heap.size, j, none⟩ = some (.int .i64 (f j)) := by
  intro j hj
  rw [cell_of_row _ _ j _ _ _ (heap_alloc_new w _)]
  have := hl j l[j] (List.getElem?_eq_getElem hj)
  simp [hj, this]
end Go.Proofs.Ytcpneokkhjffeaa
