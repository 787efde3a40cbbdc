/- Contracts of slices.Grow at nil, of slices.Concat of two rows of spans of the call's own. -/
import Derived.Test.YtflilepmhidndaaDoorSpApp
import Derived.Lib.AppendZeros
import Derived.Laws.AppendOwnNone
import Derived.WalkSpells
import Derived.IntWalk
import Derived.Maps.AppendAt
import Derived.Laws.OwnMore
namespace Go.Proofs.YtflilepmhidndaaDoor
open Go.RowKit

set_option maxHeartbeats 1000000 in
theorem GrowI_nil (n : Nat) (hn : n ≤ 1000000000000) (w : World) : Calls Tryd.prog 43 #[.slice none 0 0, .int .i64 n] w (RowOwnI [] w) := by
  by_cases h0 : n = 0
  · subst h0
    go_enter Tryd.func43, Tryd.ntmps43
    go_wp2_with fail
    go_ret
    exact ⟨_, rfl, OwnI.nil _ _, Below.refl _ _⟩
  · have hp : 0 < (n : Int) := by omega
    obtain ⟨i0, hi, hz0, hz1, hz2⟩ := info_parts info_spi
    have hrun := fun ty => Lib.run_append_nil_zeros (P := Tryd.prog) w 30 3 ty 38 i0 (.agg #[.int .i64 0, .int .i64 0]) .i64 .i64 Tryd.underlying30 Tryd.underlying3 hi hz0 n (by omega) (by rw [hz1]; omega) (by omega) (by rw [hz2]; omega)
    have hcap := grownCap_ge w n 0 38
    have hcm := grownCap_le_maxLen w n 0 38 (by unfold maxLen; omega)
    have hcap1 : 0 < grownCap w n 0 38 := by omega
    have hcl : grownCap w n 0 38 ≤ 9223372036854775807 := by unfold maxLen at hcm; omega
    have HO := Lib.hid (show OwnI (w.drew.alloc (.cells (Builtin.zeroCells (Value.agg #[.int .i64 0, .int .i64 0]).cells n ++ Builtin.zeroCells (Value.agg #[.int .i64 0, .int .i64 0]).cells (grownCap w n 0 38 - n)) 38)) w.heap.size (.slice (some ⟨w.heap.size, 0, none⟩) 0 (grownCap w n 0 38)) [] from
      World.ownsRow_made w.drew _ _ (Nat.le_refl _) hcm (by
        rw [Array.size_append, size_zeroCells, size_zeroCells]
        show n * 2 + (grownCap w n 0 38 - n) * 2 = _
        omega))
    generalize (Builtin.zeroCells (Value.agg #[.int .i64 0, .int .i64 0]).cells n ++ Builtin.zeroCells (Value.agg #[.int .i64 0, .int .i64 0]).cells (grownCap w n 0 38 - n)) = cur at *
    generalize grownCap w n 0 38 = cap at *
    have HL := Lib.hid hcl
    have hw : wrap64 (n : Int) = (n : Int) := IntWalk.wrap64_in _ ⟨by omega, by omega⟩
    have HR := Lib.hid hrun
    have HV : Value.int .i64 (wrap64 (n : Int)) = Value.int .i64 (n : Int) := by rw [hw]
    have HR2 : Hid (∀ ty, (Builtin.append_ #[30, 3] ty #[.slice none 0 0, .int .i64 (wrap64 (n : Int))]).run Tryd.prog w = .ok (.slice (some ⟨w.heap.size, 0, none⟩) n cap) (w.drew.alloc (.cells cur 38))) := fun ty => by rw [HV]; exact HR.out ty
    clear HV
    clear h0 hcap hcm hn hcl hrun hi hz0 hz1 hz2
    go_enter Tryd.func43, Tryd.ntmps43
    go_wp2_with (at_builtin; go_loud (refine Lib.wpList_append_run w rfl (.tmp 20) (.tmp 21) 30 3 rfl (.slice none 0 0) (.int .i64 (wrap64 (n : Int))) rfl rfl _ _ (HR2.out _) ?_))
    go_wp2_with fail
    go_ret
    exact ⟨_, rfl, HO.out, ((Below.refl _ _).drew).alloc (Nat.le_refl _) _⟩

def CcRelI (n1 n2 : Nat) (z i : Value) : Prop := ∃ k : Nat, k ≤ 2 ∧ i = .int .i64 k ∧ z = .int .i64 (if k = 0 then 0 else if k = 1 then n1 else n1 + n2 : Nat)
def CdRelI (w : World) (X Y : List (Int × Int)) (l i : Value) (wr : World) : Prop := ∃ k : Nat, k ≤ 2 ∧ i = .int .i64 k ∧ OwnI wr w.heap.size l (if k = 0 then [] else if k = 1 then X else X ++ Y) ∧ Below w.heap.size w wr
set_option maxHeartbeats 4000000 in
theorem ConcatI_any {b1 b2 b : Nat} {v1 v2 : Value} {X Y : List (Int × Int)} (w : World) (h1 : OwnI w b1 v1 X) (h2 : OwnI w b2 v2 Y) (hc0 : w.cell? ⟨b, 0, none⟩ = some v1) (hc1 : w.cell? ⟨b, 1, none⟩ = some v2) (hb : b < w.heap.size) (hl : X.length + Y.length ≤ 1000000000) :
    Calls Tryd.prog 23 #[.slice (some ⟨b, 0, none⟩) 2 2] w (RowOwnI (X ++ Y) w) := by
  have HO := Lib.hid (And.intro h1 h2)
  obtain ⟨A1, c1, rfl, _⟩ := h1.form
  obtain ⟨A2, c2, rfl, _⟩ := h2.form
  have hG := GrowI_nil (X.length + Y.length) (by omega) w
  clear h1 h2
  go_enter Tryd.func23, Tryd.ntmps23
  go_wp2_with fail
  go_loop [3, 11] (fun z i => CcRelI X.length Y.length z i) (fun _ i => 2 - (intOf i).toNat)
  case atStart => exact ⟨0, by omega, rfl, rfl⟩
  case round =>
    obtain ⟨k, hk, rfl, rfl⟩ := hrel
    rcases (show k = 0 ∨ k = 1 ∨ k = 2 by omega) with rfl | rfl | rfl
    · rw [if_pos rfl]
      go_wp2_with fail
      exact ⟨⟨1, by omega, rfl, by simp⟩, by simp [intOf]⟩
    · rw [if_neg (by omega), if_pos rfl]
      go_wp2_with fail
      exact ⟨⟨2, by omega, rfl, by simp⟩, by simp [intOf]⟩
    · rw [if_neg (by omega), if_neg (by omega)]
      go_wp2_with fail
      refine hG.mono ?_
      rintro e w1 ⟨v0, rfl, ho0, hb1⟩
      clear hG
      have hs1 := hb1.size
      go_wp2_with fail
      go_loopw [6, 27] (fun l i wr => CdRelI w X Y l i wr) (fun _ i _ => 2 - (intOf i).toNat)
      case atStart => exact ⟨0, by omega, rfl, ho0, hb1⟩
      case round =>
        obtain ⟨k, hk, rfl, hown, hbw⟩ := hrel
        have hsz := hbw.size
        have hd0 := (hbw.cell (p := ⟨b, 0, none⟩) hb).trans hc0
        have hd1 := (hbw.cell (p := ⟨b, 1, none⟩) hb).trans hc1
        rcases (show k = 0 ∨ k = 1 ∨ k = 2 by omega) with rfl | rfl | rfl
        · rw [if_pos rfl] at hown
          have HX := Lib.hid (And.intro (HO.out.1.below hbw) (And.intro hown hbw))
          clear hown hbw
          go_wp2_with (at_builtin; refine app_spsC _ rfl (.tmp 31) (.tmp 32) rfl w.heap.size _ [] rfl HX.out.2.1 _ _ X rfl HX.out.1 ?_ ?d1 hsz; intro v3 w3 hown3 hg3 _)
          case d1 => simp; omega
          go_wp2_with fail
          exact ⟨⟨1, by omega, rfl, by simpa using hown3, HX.out.2.2.grown hg3 hsz (fun q hq => HX.out.2.1.base_le q hq)⟩, by simp [intOf]⟩
        · rw [if_neg (by omega), if_pos rfl] at hown
          have HX := Lib.hid (And.intro (HO.out.2.below hbw) (And.intro hown hbw))
          clear hown hbw
          go_wp2_with (at_builtin; refine app_spsC _ rfl (.tmp 31) (.tmp 32) rfl w.heap.size _ X rfl HX.out.2.1 _ _ Y rfl HX.out.1 ?_ ?d2 hsz; intro v3 w3 hown3 hg3 _)
          case d2 => omega
          go_wp2_with fail
          exact ⟨⟨2, by omega, rfl, by simpa using hown3, HX.out.2.2.grown hg3 hsz (fun q hq => HX.out.2.1.base_le q hq)⟩, by simp [intOf]⟩
        · rw [if_neg (by omega), if_neg (by omega)] at hown
          go_wp2_with fail
          go_ret
          exact ⟨_, rfl, hown, hbw⟩
end Go.Proofs.YtflilepmhidndaaDoor
