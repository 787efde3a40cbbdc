/- A stream of numbers beside a box that names it; what is made beside it. -/
import Derived.Test.YtcpneokkhjffeaaBlk
import Derived.Test.YtcpneokkhjffeaaPick
import Derived.Test.YtcpneokkhjffeaaFlip
import Derived.Test.YtcpneokkhjffeaaInts
namespace Go.Proofs.Ytcpneokkhjffeaa
open Go.RowKit

/-- the stream lies ahead of its box -/
def Mk9 (w W : World) (k : Nat) : Prop := Strm W w.heap.size w.heap.size k ∧ Blk W (w.heap.size + 1) 23 #[.pointer (some ⟨w.heap.size, 0, none⟩)] ∧ Below w.heap.size w W
def Nb9 (w W : World) (b : Nat) (t : TypeId) (cs : Array Value) : Prop := Blk W b t cs ∧ w.heap.size + 1 < b
theorem Mk9.size {w W : World} {k : Nat} (h : Mk9 w W k) : w.heap.size + 1 < W.heap.size := h.2.1.lt
theorem Mk9.cell {w W : World} {k : Nat} (h : Mk9 w W k) : W.cell? ⟨w.heap.size + 1, 0, none⟩ = some (.pointer (some ⟨w.heap.size, 0, none⟩)) := h.2.1.cell 0
theorem Mk9.alloc {w W : World} {k : Nat} (h : Mk9 w W k) (o : Obj) : Mk9 w (W.alloc o) k := ⟨h.1.alloc o, h.2.1.alloc o, h.2.2.alloc h.2.2.size o⟩
theorem Mk9.drew {w W : World} {k : Nat} (h : Mk9 w W k) : Mk9 w W.drew k := ⟨h.1.drew, h.2.1.drew, h.2.2.drew⟩
theorem Mk9.set {w W : World} {k b i : Nat} (h : Mk9 w W k) (hb : w.heap.size + 1 < b) (u : Value) : Mk9 w (W.setCell ⟨b, i, none⟩ u) k :=
  ⟨h.1.setCell (p := ⟨b, i, none⟩) (by show w.heap.size ≤ b; omega) (by show w.heap.size ≠ b; omega) u, h.2.1.far (p := ⟨b, i, none⟩) (by show w.heap.size + 1 ≠ b; omega) u, h.2.2.setCell (p := ⟨b, i, none⟩) (by show w.heap.size ≤ b; omega) u⟩
theorem Mk9.took {w W W' : World} {k k' : Nat} (h : Mk9 w W k) (hg : W.grownBy W' (some w.heap.size)) (hs : Strm W' w.heap.size w.heap.size k') : Mk9 w W' k' :=
  ⟨hs, h.2.1.grown hg (by simp), h.2.2.grown hg h.2.2.size (fun k hk => by injection hk with hk; omega)⟩
theorem Mk9.below {w W W' : World} {k : Nat} (h : Mk9 w W k) (hb : Below W.heap.size W W') : Mk9 w W' k :=
  ⟨h.1.below hb (by have := h.size; omega), h.2.1.below hb h.2.1.lt, h.2.2.trans (hb.mono h.2.2.size)⟩
theorem Nb9.new {w W : World} {k : Nat} (h : Mk9 w W k) (t : TypeId) (cs : Array Value) : Nb9 w (W.alloc (.cells cs t)) W.heap.size t cs := ⟨Blk.new _ _ _, h.size⟩
theorem Nb9.new1 {w W : World} {k b : Nat} (h : Mk9 w W k) (t : TypeId) (cs : Array Value) (e : b = W.heap.size) : Nb9 w (W.alloc (.cells cs t)) b t cs := by subst e; exact Nb9.new h t cs
theorem Nb9.alloc {w W : World} {b : Nat} {t : TypeId} {cs : Array Value} (h : Nb9 w W b t cs) (o : Obj) : Nb9 w (W.alloc o) b t cs := ⟨h.1.alloc o, h.2⟩
theorem Nb9.drew {w W : World} {b : Nat} {t : TypeId} {cs : Array Value} (h : Nb9 w W b t cs) : Nb9 w W.drew b t cs := ⟨h.1.drew, h.2⟩
theorem Nb9.took {w W W' : World} {b : Nat} {t : TypeId} {cs : Array Value} (h : Nb9 w W b t cs) (hg : W.grownBy W' (some w.heap.size)) : Nb9 w W' b t cs := ⟨h.1.grown hg (fun e => by injection e with e; have := h.2; omega), h.2⟩
theorem Nb9.below {w W W' : World} {b : Nat} {t : TypeId} {cs : Array Value} (h : Nb9 w W b t cs) (hb : Below W.heap.size W W') : Nb9 w W' b t cs := ⟨h.1.below hb h.1.lt, h.2⟩
/-- a number that was taken of the stream -/
def Tk9 (lo hi : Int) (w X : World) (k : Nat) (e : Ending) (w' : World) : Prop := ∃ z : Int, lo ≤ z ∧ z ≤ hi ∧ e = .returned (.int .i64 z) ∧ (∃ k', k' ≤ k ∧ Mk9 w w' k') ∧ X.grownBy w' (some w.heap.size)
theorem pick_mk {w X : World} {k b : Nat} (n : Nat) (cs : List Value) (lo hi : Int) (hm : Mk9 w X k) (hb : Nb9 w X b 3 cs.toArray) (hn : cs.length = n) (h0 : 0 < n) (h1 : n ≤ 1000000) (hcs : cs.all (intV lo hi) = true) (hk : k ≤ 1000000) :
    Calls Try.prog 5 #[.pointer (some ⟨w.heap.size, 0, none⟩), .slice (some ⟨b, 0, none⟩) n n] X (Tk9 lo hi w X (k + 1)) := by
  refine (pick_any n cs lo hi b 3 w.heap.size w.heap.size k X hm.1 hb.1 hn h0 h1 hcs (by omega) (by have := hb.2; omega)).mono ?_
  rintro e w' ⟨z, hz1, hz2, rfl, ⟨k', hk', hs⟩, hg⟩
  exact ⟨z, hz1, hz2, rfl, ⟨k', hk', hm.took hg hs⟩, hg⟩
end Go.Proofs.Ytcpneokkhjffeaa
