/- What makers of strings and numbers answer. -/
import Derived.Test.YtcpneokkhjffeaaStream0
import Derived.IntWalk
namespace Go.Proofs.Ytcpneokkhjffeaa
open Go.RowKit

/-- a string of at most m bytes; of what was there only the stream has turned -/
def TookS (m : Nat) (B g k : Nat) (w : World) (e : Ending) (w' : World) : Prop := ∃ s : ByteArray, s.size ≤ m ∧ e = .returned (.string s) ∧ (∃ k', k' ≤ k ∧ Strm w' B g k') ∧ w.grownBy w' (some g)
theorem tookS_of {m B g k k' : Nat} {s : ByteArray} {w w' : World} (hm : s.size ≤ m) (hs : Strm w' B g k') (hk : k' ≤ k) (hg : w.grownBy w' (some g)) : TookS m B g k w (.returned (.string s)) w' := ⟨s, hm, rfl, ⟨k', hk, hs⟩, hg⟩
def strV (m : Nat) (v : Value) : Bool := match v with | .string u => decide (u.size ≤ m) | _ => false
theorem strV_at {m : Nat} {cs : List Value} (h : cs.all (strV m) = true) {i : Nat} (hi : i < cs.length) : ∃ u : ByteArray, cs[i]? = some (.string u) ∧ u.size ≤ m := by
  have := List.all_eq_true.1 h cs[i] (List.getElem_mem hi)
  rw [List.getElem?_eq_getElem hi]
  revert this
  generalize cs[i] = v
  cases v <;> intro this <;> first | exact ⟨_, rfl, of_decide_eq_true this⟩ | cases this

/-- one of some numbers, all of them at least lo and at most hi -/
def TookN (lo hi : Int) (B g k : Nat) (w : World) (e : Ending) (w' : World) : Prop := ∃ r : Int, lo ≤ r ∧ r ≤ hi ∧ e = .returned (.int .i64 r) ∧ (∃ k', k' ≤ k ∧ Strm w' B g k') ∧ w.grownBy w' (some g)
theorem tookN_of {lo hi r : Int} {B g k k' : Nat} {w w' : World} (h1 : lo ≤ r) (h2 : r ≤ hi) (hs : Strm w' B g k') (hk : k' ≤ k) (hg : w.grownBy w' (some g)) : TookN lo hi B g k w (.returned (.int .i64 r)) w' := ⟨r, h1, h2, rfl, ⟨k', hk, hs⟩, hg⟩
def intV (lo hi : Int) (v : Value) : Bool := match v with | .int .i64 z => decide (lo ≤ z) && decide (z ≤ hi) | _ => false
theorem intV_at {lo hi : Int} {cs : List Value} (h : cs.all (intV lo hi) = true) {i : Nat} (hi' : i < cs.length) : ∃ z : Int, cs[i]? = some (.int .i64 z) ∧ lo ≤ z ∧ z ≤ hi := by
  have := List.all_eq_true.1 h cs[i] (List.getElem_mem hi')
  rw [List.getElem?_eq_getElem hi']
  revert this
  generalize cs[i] = v
  cases v with
  | int k z => cases k <;> intro this <;> first | exact ⟨_, rfl, by simpa [intV] using this⟩ | cases this
  | _ => intro this; cases this

theorem took_new {m B g k : Nat} {wr : World} {o : Obj} {e : Ending} {w' : World} (h : TookS m B g k (wr.alloc o) e w') : TookS m B g k wr e w' := by
  obtain ⟨s, h1, h2, h3, h4⟩ := h
  exact ⟨s, h1, h2, h3, (World.grownBy_alloc _ _ _).trans h4⟩
theorem tookN_new {lo hi : Int} {B g k : Nat} {wr : World} {o : Obj} {e : Ending} {w' : World} (h : TookN lo hi B g k (wr.alloc o) e w') : TookN lo hi B g k wr e w' := by
  obtain ⟨s, h1, h1', h2, h3, h4⟩ := h
  exact ⟨s, h1, h1', h2, h3, (World.grownBy_alloc _ _ _).trans h4⟩
end Go.Proofs.Ytcpneokkhjffeaa
