/- Contracts of strings.IndexRune, IndexAny, ContainsAny at a blank and a line feed; of near.isToken. -/
import Derived.Test.YtndeifdpiimbeaaGreatDoorLays
import Derived.Test.YtndeifdpiimbeaaGreatDoorChar
import Derived.Test.YtndeifdpiimbeaaGreatDoorPlain
import Derived.Test.YtndeifdpiimbeaaGreatDoorMakers
import Derived.Shelf.Strings.IndexAnyAll
import Derived.Shelf.Small.Utf8
import Derived.Laws.RangeAny
import Derived.Laws.Runes
import Derived.BigQuiet
import Derived.WalkMore
import Derived.Deep.LoopGhost
namespace Go.Proofs.YtndeifdpiimbeaaGreatDoor
open Go.RowKit

set_option maxHeartbeats 4000000 in
set_option maxRecDepth 100000 in
theorem IndexRune_bad (w : World) : Calls Tryz.prog 92 #[.string ⟨#[32, 10]⟩, .int .i32 65533] w fun e w' => e = .returned (.int .i64 (-1)) ∧ Below w.heap.size w w' := by
  go_enter Tryz.func92, Tryz.ntmps92
  go_wp2_with fail
  go_loopg [5, 6] 2 (fun g _ _ wx => ∃ i : Nat, i + g = 2 ∧ wx = w.iter ⟨#[32, 10]⟩ i)
  case atStart => exact ⟨0, by omega, rfl⟩
  case round =>
    obtain ⟨i, hig, rfl⟩ := hrel
    rcases (show i = 0 ∨ i = 1 ∨ i = 2 by omega) with rfl | rfl | rfl
    · have hnx := fun ty => run_next_ascii (P := Tryz.prog) w ⟨#[32, 10]⟩ 0 ty (by decide) (by decide)
      go_wp2_with fail
      go_roundg 1
      case measure => omega
      case rel => exact ⟨1, by omega, rfl⟩
    · have hnx := fun ty => run_next_ascii (P := Tryz.prog) w ⟨#[32, 10]⟩ 1 ty (by decide) (by decide)
      go_wp2_with fail
      go_roundg 0
      case measure => omega
      case rel => exact ⟨2, by omega, rfl⟩
    · have hnx := fun ty => run_next_end (P := Tryz.prog) w ⟨#[32, 10]⟩ 2 ty (by decide)
      go_wp2_with fail
      go_ret
      exact ⟨rfl, (Below.refl _ _).alloc (Nat.le_refl _) _⟩
theorem valid_any (r : Int) (w : World) : Calls Tryz.prog 108 #[.int .i32 r] w fun e w' => e = .returned (.bool (Lib.validRune r)) ∧ w' = w := Any.utf8_ValidRune { Tryz.lays153 with } r w
theorem ib_empty (c : Nat) (w : World) : Calls Tryz.prog 107 #[.string ByteArray.empty, .int .u8 c] w fun e w' => e = .returned (.int .i64 (-1)) ∧ w' = w := by
  refine (Any.strings_IndexByte { Tryz.lays153 with } ⟨#[]⟩ c w).mono ?_
  rintro e w' ⟨rfl, rfl⟩
  exact ⟨rfl, rfl⟩
set_option maxHeartbeats 4000000 in
set_option maxRecDepth 100000 in
theorem IndexRune_hi (r : Int) (h1 : 128 ≤ r) (h2 : r ≤ 2147483647) (w : World) : Calls Tryz.prog 92 #[.string ⟨#[32, 10]⟩, .int .i32 r] w fun e w' => e = .returned (.int .i64 (-1)) ∧ Below w.heap.size w w' := by
  by_cases hb : r = 65533
  · subst hb; exact IndexRune_bad w
  · have hn : (r == 65533) = false := beq_eq_false_iff_ne.2 hb
    have hV := valid_any r w
    cases hv : Lib.validRune r
    · rw [hv] at hV
      clear hb hv
      go_enter Tryz.func92, Tryz.ntmps92
      go_wp2_with fail
      refine hV.mono ?_
      rintro e w1 ⟨rfl, rfl⟩
      go_wp2_with fail
      go_ret
      exact ⟨rfl, Below.refl _ _⟩
    · rw [hv] at hV
      obtain ⟨f1, f2, f3⟩ := encode_facts r (by rw [validRune_eq]; exact hv) h1
      clear hb hv
      generalize hE : Utf8.encode r = E at *
      go_enter Tryz.func92, Tryz.ntmps92
      go_wp2_with fail
      refine hV.mono ?_
      rintro e w1 ⟨rfl, rfl⟩
      clear hV
      by_cases h2z : E.size = 2
      · have f3' := f3 (by omega)
        have hl : E.size - 1 = 1 := by omega
        have hlt : (1 : Nat) < E.size := by omega
        have hx : ∃ c : UInt8, E[1]'hlt = c := ⟨_, rfl⟩
        obtain ⟨c, hc⟩ := hx
        have hc2 : 128 ≤ c.toNat := by
          rw [← hc]
          have := f3'
          simp only [hl] at this
          exact this
        have hcu : c.toNat < 256 := UInt8.toNat_lt c
        have hz : (E.size : Int) = 2 := by omega
        have hne : ((((⟨#[32, 10]⟩ : ByteArray)[1]'(by decide)).toNat : Int) != (c.toNat : Int)) = true := bne_iff_ne.2 (show ((10 : Nat) : Int) ≠ _ by omega)
        have hI := ib_empty c.toNat
        have hw2 : IntKind.i64.wrap 2 = 2 := by decide
        have H12 := Lib.hid (And.intro f1 (And.intro f2 h2))
        clear f3 f3' hl h2 hn h1
        go_wp2_with fail
        go_step3
        go_wp2_with fail
        go_loopw [9] (fun i wr => i = .int .i64 1 ∧ wr = w1) (fun _ _ => 0)
        case atStart => exact ⟨rfl, rfl⟩
        case round =>
          obtain ⟨rfl, rfl⟩ := hrel
          go_wp2_with fail
          go_step3
          go_wp2_with fail
          go_quiet (fail)
          go_wp2_with fail
          go_quiet ((refine (hI _).mono ?_; rintro e w'' ⟨rfl, rfl⟩; exact ⟨rfl, _, rfl⟩))
          go_wp2_with fail
          show bodyPost Tryz.prog Tryz.f92 (fun e w' => e = .returned (.int .i64 (-1)) ∧ Below wr.heap.size wr w') Exit.ret _ _
          go_ret
          exact ⟨rfl, below_drewN (Below.refl _ _) _⟩
      · have hz : (2 : Int) < (E.size : Int) := by omega
        have H12 := Lib.hid (And.intro f1 (And.intro f2 h2))
        clear f3 h2 hn h1
        go_wp2_with fail
        go_step3
        go_wp2_with fail
        go_loopw [9] (fun i wr => i = .int .i64 ((E.size : Int) - 1) ∧ wr = w1) (fun _ _ => 0)
        case atStart => exact ⟨rfl, rfl⟩
        case round =>
          obtain ⟨rfl, rfl⟩ := hrel
          go_wp2_with fail
          rw [Exit.noGoto_ret]
          go_ret
          exact ⟨rfl, Below.refl _ _⟩
end Go.Proofs.YtndeifdpiimbeaaGreatDoor
