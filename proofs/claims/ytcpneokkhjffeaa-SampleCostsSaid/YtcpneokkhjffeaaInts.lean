/- A slice of ints that came in; the stream over it. -/
import Derived.Test.YtcpneokkhjffeaaStream0
namespace Go.Proofs.Ytcpneokkhjffeaa
open Go.RowKit

/-- a slice of ints below block B -/
def Ints (w : World) (B : Nat) (A : Option Addr) (n : Nat) : Prop := n ≤ 9223372036854775807 ∧ (0 < n → ∃ b off, A = some ⟨b, off, none⟩ ∧ b < B ∧ ∀ i, i < n → ∃ z, w.cell? ⟨b, off + i, none⟩ = some (.int .i64 z) ∧ -9223372036854775808 ≤ z ∧ z ≤ 9223372036854775807)
theorem Ints.strm {w : World} {A : Option Addr} {n cap : Nat} (h : Ints w w.heap.size A n) : Strm (w.alloc (.cells #[.slice A n cap, .int .i64 0] 25)) w.heap.size w.heap.size 0 := by
  refine ⟨A, n, cap, heap_alloc_new w _, Nat.le_refl _, h.1, fun hn => ?_⟩
  obtain ⟨b, off, e, hb, hc⟩ := h.2 hn
  refine ⟨b, off, e, hb, fun i hi => ?_⟩
  obtain ⟨z, hz, hz'⟩ := hc i hi
  exact ⟨z, (World.cell?_of_block (w := w) (a := ⟨b, off + i, none⟩) (Below.heap_alloc w _ b hb)).trans hz, hz'⟩
end Go.Proofs.Ytcpneokkhjffeaa
