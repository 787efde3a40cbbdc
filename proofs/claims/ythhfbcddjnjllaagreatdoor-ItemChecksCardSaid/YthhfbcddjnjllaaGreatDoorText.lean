/- Contracts of printed, Text, Plain and the reference's Plain, IsText. -/
import Derived.Test.YthhfbcddjnjllaaGreatDoorKeyR
namespace Go.Proofs.YthhfbcddjnjllaaGreatDoor
open Go.RowKit

def tabTop : Nat := Tryz.lays196_ren.g 3 + Tryz.lays196_ren.g 4 + Tryz.lays144_ren.g 1 + 1
/-- the tables of the library hold what the program's text lays -/
def Tabs (w : World) : Prop := Lib.Utf8Tabs (Tryz.lays196_ren.g 3) (Tryz.lays196_ren.g 4) w ∧ (∃ m, w.cell? ⟨Tryz.lays144_ren.g 1, 0, none⟩ = some (.int .i64 m)) ∧ tabTop ≤ w.heap.size
theorem Tabs.keep {w w' : World} (h : Tabs w) (hs : w.heap.size ≤ w'.heap.size) (hb : ∀ k, k < tabTop → w'.heap[k]? = w.heap[k]?) : Tabs w' := by
  have hc : ∀ k i, k < tabTop → w'.cell? ⟨k, i, none⟩ = w.cell? ⟨k, i, none⟩ := fun k i hk => World.cell?_of_block (w := w) (hb k hk)
  obtain ⟨⟨h1, h2⟩, ⟨m, h3⟩, h4⟩ := h
  have l3 : Tryz.lays196_ren.g 3 < tabTop := by unfold tabTop; omega
  have l4 : Tryz.lays196_ren.g 4 < tabTop := by unfold tabTop; omega
  have l1 : Tryz.lays144_ren.g 1 < tabTop := by unfold tabTop; omega
  exact ⟨⟨fun c hcc => (hc _ _ l3).trans (h1 c hcc), fun i hi => ⟨(hc _ _ l4).trans (h2 i hi).1, (hc _ _ l4).trans (h2 i hi).2⟩⟩, ⟨m, (hc _ _ l1).trans h3⟩, Nat.le_trans h4 hs⟩
theorem Tabs.below {w w' : World} (h : Tabs w) (hb : Below w.heap.size w w') : Tabs w' := h.keep hb.size fun k hk => hb.block k (Nat.lt_of_lt_of_le hk h.2.2)
theorem Tabs.drewN {w : World} (h : Tabs w) (n : Nat) : Tabs (w.drewN n) := h.keep (Nat.le_refl _) fun _ _ => rfl
theorem Tabs.grown {w w' : World} {g : Nat} (h : Tabs w) (hg : w.grownBy w' (some g)) (ht : tabTop ≤ g) : Tabs w' :=
  h.keep hg.size fun k hk => hg.block k (Nat.lt_of_lt_of_le hk h.2.2) (by intro e; injection e; omega)

namespace TM
def okCh (c : UInt8) : Bool := !(decide (c.toNat < 32) && c.toNat != 10) && c.toNat != 127
def printed (l : List UInt8) : Bool := l.all okCh && Lib.validD l
def text (l : List UInt8) : Bool := (l.isEmpty || Lib.hasSuffix l [10]) && printed l
def plain (l : List UInt8) : Bool := !(Lib.hasPrefix l [32] || Lib.hasSuffix l [32] || Lib.contains l [32, 32]) && !decide (0 ≤ Lib.indexByte l 10) && printed l
end TM
def AllRel (p : UInt8 → Bool) (s : ByteArray) (w : World) (i : Value) (wr : World) : Prop := ∃ k : Nat, k ≤ s.size ∧ i = .int .i64 k ∧ Hid ((s.data.toList.take k).all p = true) ∧ ∃ n, wr = w.drewN n
theorem all_next {p : UInt8 → Bool} {s : ByteArray} {k : Nat} (hlt : k < s.size) (H : Hid ((s.data.toList.take k).all p = true)) (h : p s[k] = true) : Hid ((s.data.toList.take (k + 1)).all p = true) := by
  show _ = _
  rw [KM.take_snoc s k hlt, List.all_append, H.out]; simp [h]
theorem all_not {p : UInt8 → Bool} {s : ByteArray} {k : Nat} (hlt : k < s.size) (h : p s[k] = false) : s.data.toList.all p = false := by
  rw [List.all_eq_false]
  exact ⟨s[k], by simp [ByteArray.getElem_eq_getElem_data], by simp [h]⟩

set_option maxHeartbeats 1000000 in
theorem printed_any (s : ByteArray) (b : Bool) (hb : TM.printed s.data.toList = b) (hs : s.size ≤ 1000000000000) (w : World) (hT : Tabs w) :
    Calls Tryz.prog 141 #[.string s] w (SaysK b w) := by
  subst hb
  have hsl : s.data.toList.length = s.size := by simp
  go_enter Tryz.func141, Tryz.ntmps141
  go_wp2_with fail
  go_loopw [6] (fun i wr => AllRel TM.okCh s w i wr) (fun i _ => s.size - (intOf i).toNat)
  case atStart => exact ⟨0, by omega, rfl, rfl, 0, rfl⟩
  case round =>
    obtain ⟨k, hk, rfl, H, n, rfl⟩ := hrel
    by_cases hlt : k < s.size
    · by_cases h1 : s[k].toNat < 32
      · by_cases h2 : s[k].toNat = 10
        · go_wp2_with fail
          exact ⟨⟨k + 1, by omega, rfl, all_next hlt H (by simp [TM.okCh, h2]), n, rfl⟩, by simp [intOf]; omega⟩
        · have e10 : ((s[k].toNat : Int) != 10) = true := bne_iff_ne.2 (by omega)
          go_wp2_with fail
          go_ret
          exact saysk_of (below_drewN (Below.refl _ _) _) (by simp [TM.printed, all_not hlt (show TM.okCh s[k] = false by simp [TM.okCh, h1, h2])])
      · by_cases h3 : s[k].toNat = 127
        · go_wp2_with fail
          go_ret
          exact saysk_of (below_drewN (Below.refl _ _) _) (by simp [TM.printed, all_not hlt (show TM.okCh s[k] = false by simp [TM.okCh, h3])])
        · have e127 : ((s[k].toNat : Int) == 127) = false := beq_eq_false_iff_ne.2 (by omega)
          go_wp2_with fail
          exact ⟨⟨k + 1, by omega, rfl, all_next hlt H (by simp [TM.okCh, h1, h3]), n, rfl⟩, by simp [intOf]; omega⟩
    · have hall : s.data.toList.all TM.okCh = true := by have := H.out; rwa [List.take_of_length_le (by omega)] at this
      clear H
      go_wp2_with fail
      refine (Any.utf8_ValidString Tryz.lays196 s _ (by omega) (hT.drewN n).1).mono ?_
      rintro e w1 ⟨rfl, hw1⟩
      go_wp2_with fail
      go_ret
      exact saysk_of ((below_drewN (Below.refl w.heap.size w) n).trans hw1) (by simp [TM.printed, hall])
end Go.Proofs.YthhfbcddjnjllaaGreatDoor
