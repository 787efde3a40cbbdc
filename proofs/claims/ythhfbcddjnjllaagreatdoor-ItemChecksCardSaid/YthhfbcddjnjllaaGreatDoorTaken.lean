/- Contract of taken. -/
import Derived.Test.YthhfbcddjnjllaaGreatDoorUnquote
import Derived.Test.YthhfbcddjnjllaaGreatDoorFormat
namespace Go.Proofs.YthhfbcddjnjllaaGreatDoor
open Go.RowKit

def Laid (w : World) : Prop := LaidE w ∧ LaidT w
theorem Laid.below {w w' : World} (h : Laid w) (hb : Below w.heap.size w w') : Laid w' := ⟨h.1.below hb h.1.lt, h.2.below hb h.2.lt⟩
def SaysT (w : World) (e : Ending) (w' : World) : Prop := e = .returned (.bool true) ∧ Below w.heap.size w w'
theorem unq_a : QM.unquote [34, 97, 34] = some ([97], 3) := by decide +kernel
theorem dig_a : QM.digest [97] = [97, 102, 54, 51, 100, 99, 52, 99, 56, 54, 48, 49, 101, 99, 56, 99] := by decide +kernel

set_option maxRecDepth 100000 in
set_option maxHeartbeats 1000000 in
theorem taken_any (w : World) (hl : Laid w) : Calls Tryz.prog 21 #[] w (SaysT w) := by
  have hu := Lib.hid unq_a
  have hd := Lib.hid dig_a
  have Hl := Lib.hid hl
  clear hl
  go_enter Tryz.func21, Tryz.ntmps21
  go_wp2_with fail
  refine (Unquote_any ⟨#[34, 97, 34]⟩ (by decide) w Hl.out.1).mono ?_
  rintro en w1 ⟨rfl, hb⟩
  rw [show QM.unquote ({ data := #[34, 97, 34] } : ByteArray).data.toList = some ([97], 3) from hu.out]
  have Hl1 := Lib.hid (Hl.out.below hb)
  have Hb := Lib.hid hb
  clear hb
  unfold unqVal
  go_wp2_with fail
  refine (Digest_any ⟨#[97]⟩ (by decide) _ Hl1.out.2).mono ?_
  rintro en w2 ⟨rfl, hb2⟩
  rw [show QM.digest ({ data := #[97] } : ByteArray).data.toList = _ from hd.out]
  go_wp2_with fail
  go_ret
  exact ⟨rfl, Hb.out.trans (hb2.mono Hb.out.size)⟩

/-- a slice of ints below block B -/
def Ints (w : World) (B : Nat) (A : Option Addr) (n : Nat) : Prop := n ≤ 9223372036854775807 ∧ (0 < n → ∃ b off, A = some ⟨b, off, none⟩ ∧ b < B ∧ ∀ i, i < n → ∃ z, w.cell? ⟨b, off + i, none⟩ = some (.int .i64 z) ∧ -9223372036854775808 ≤ z ∧ z ≤ 9223372036854775807)
theorem Ints.strm {w : World} {A : Option Addr} {n cap : Nat} (h : Ints w w.heap.size A n) : Strm (w.alloc (.cells #[.slice A n cap, .int .i64 0] 25)) w.heap.size w.heap.size 0 := by
  refine ⟨A, n, cap, heap_alloc_new w _, Nat.le_refl _, h.1, fun hn => ?_⟩
  obtain ⟨b, off, e, hb, hc⟩ := h.2 hn
  refine ⟨b, off, e, hb, fun i hi => ?_⟩
  obtain ⟨z, hz, hz'⟩ := hc i hi
  exact ⟨z, (World.cell?_of_block (w := w) (a := ⟨b, off + i, none⟩) (Below.heap_alloc w _ b hb)).trans hz, hz'⟩
end Go.Proofs.YthhfbcddjnjllaaGreatDoor
