/- Rows of yes and no; contracts of the reference's spansFrom, bounded and of the program's bounded. -/
import Derived.Test.YtflilepmhidndaaDoorSpCheck
import Derived.Deep.OwnRows
import Derived.BigRegion
import Derived.BigQuiet
namespace WM
/-- what is left of too many spans, and the code -/
def bList (L : List (Int × Int)) : List (Int × Int) := if 1000 < L.length then [] else L
def bCode (L : List (Int × Int)) : Int := if 1000 < L.length then 2 else 0
def orC (a b : Int) : Int := if a = 0 then b else a
end WM
namespace Go.Proofs.YtflilepmhidndaaDoor
open Go.RowKit

theorem info_bool : (Tryd.prog.info? 4).map (fun i => (i.zero, i.size, i.bytes)) = some (some (.bool false), 1, 1) := by kernel_rfl
/-- a row of yes and no in block g -/
def Bits (w : World) (g n : Nat) (p : Nat → Bool) : Prop := w.rowIs g 4 n (fun j => .bool (p j))
theorem Bits.cell {w : World} {g n j : Nat} {p : Nat → Bool} (h : Bits w g n p) (hj : j < n) : w.cell? ⟨g, j, none⟩ = some (.bool (p j)) := World.rowIs.cell h hj
theorem Bits.frozen {w : World} {g n : Nat} {p : Nat → Bool} (h : Bits w g n p) (j : Nat) : w.frozen? ⟨g, j, none⟩ = false := World.rowIs.frozen h j
theorem Bits.lt {w : World} {g n : Nat} {p : Nat → Bool} (h : Bits w g n p) : g < w.heap.size := World.rowIs.lt h
theorem Bits.alloc {w : World} {g n : Nat} {p : Nat → Bool} (h : Bits w g n p) (o : Obj) : Bits (w.alloc o) g n p := World.rowIs.alloc h o
theorem Bits.drewN {w : World} {g n : Nat} {p : Nat → Bool} (h : Bits w g n p) (q : Nat) : Bits (w.drewN q) g n p := h
theorem Bits.below {w w' : World} {B g n : Nat} {p : Nat → Bool} (h : Bits w g n p) (hb : Below B w w') (hg : g < B) : Bits w' g n p := World.rowIs.of_block h (hb.block g hg)
theorem Bits.set {w : World} {g n : Nat} {p : Nat → Bool} (h : Bits w g n p) (i : Nat) (b : Bool) : Bits (w.setCell ⟨g, i, none⟩ (.bool b)) g n (fun j => if j = i then b else p j) := by
  refine World.rowIs.congr (World.rowIs.set h i (.bool b)) fun j _ => ?_
  by_cases e : j = i <;> simp [e]
theorem Bits.other {w : World} {g n : Nat} {p : Nat → Bool} (h : Bits w g n p) {a : Addr} (ha : g ≠ a.block) (v : Value) : Bits (w.setCell a v) g n p := World.rowIs.setOther h ha v
/-- a row of the call's own says of the first n numbers which have C -/
def PaSt (w wr : World) (n : Nat) (C : Int → Prop) : Prop := Below w.heap.size w wr ∧ w.heap.size < wr.heap.size ∧ ∃ p, Bits wr w.heap.size n p ∧ ∀ j : Nat, j < n → (p j = true ↔ C j)
theorem PaSt.congr {w wr : World} {n : Nat} {C D : Int → Prop} (h : PaSt w wr n C) (e : ∀ i, C i ↔ D i) : PaSt w wr n D := by
  obtain ⟨h1, h2, p, h3, h4⟩ := h
  exact ⟨h1, h2, p, h3, fun j hj => (h4 j hj).trans (e j)⟩
theorem PaSt.alloc {w wr : World} {n : Nat} {C : Int → Prop} (h : PaSt w wr n C) (o : Obj) : PaSt w (wr.alloc o) n C := by
  obtain ⟨h1, h2, p, h3, h4⟩ := h
  exact ⟨h1.alloc h1.size _, by simp; omega, p, h3.alloc _, h4⟩
theorem PaSt.set {w wr : World} {n : Nat} {C : Int → Prop} (h : PaSt w wr n C) (z : Nat) : PaSt w (wr.setCell ⟨w.heap.size, z, none⟩ (.bool true)) n (fun j => C j ∨ j = z) := by
  obtain ⟨h1, h2, p, h3, h4⟩ := h
  refine ⟨below_setI h1 (Nat.le_refl _) _, by simpa [World.setCell] using h2, _, h3.set z true, fun j hj => ?_⟩
  by_cases e : j = z
  · subst e; simp
  · simp only [if_neg e]
    rw [h4 j hj]
    constructor
    · exact .inl
    · rintro (h5 | h5)
      · exact h5
      · omega
theorem PaSt.at_ {w wr : World} {n : Nat} {C : Int → Prop} (h : PaSt w wr n C) {z : Nat} (hz : z < n) : (∃ b, wr.cell? ⟨w.heap.size, z, none⟩ = some (.bool b)) ∧ wr.frozen? ⟨w.heap.size, z, none⟩ = false := by
  obtain ⟨_, _, p, h3, _⟩ := h
  exact ⟨⟨_, h3.cell hz⟩, h3.frozen z⟩
theorem take_atI {L : List (Int × Int)} {k : Nat} {x : Int × Int} (h : L[k]? = some x) : L.take (k + 1) = L.take k ++ [x] := by
  obtain ⟨hk, rfl⟩ := List.getElem?_eq_some_iff.1 h
  rw [List.take_succ_eq_append_getElem hk]
def SpfRel (w : World) (p : Nat → Bool) (n : Nat) (v i : Value) (wr : World) : Prop := ∃ (k : Nat) (L : List (Int × Int)), i = .int .i64 k ∧ k ≤ n ∧ Hid (WM.Ran p k L) ∧ L.length ≤ k ∧ OwnI wr w.heap.size v L ∧ Below w.heap.size w wr
def RanSays (p : Nat → Bool) (n : Nat) (w : World) (e : Ending) (w' : World) : Prop := ∃ L, WM.Ran p n L ∧ RowOwnI L w e w'
theorem below_grownI {B : Nat} {a w w' : World} {v : Value} {L : List (Int × Int)} (h : Below B a w) (ho : OwnI w B v L) (hg : w.grownBy w' v.ownBlock) (hB : B ≤ w.heap.size) : Below B a w' :=
  ⟨hg.os.trans h.os, hg.tape.trans h.tape, hg.output.trans h.output, Nat.le_trans h.size hg.size, fun i hi => (hg.block i (by omega) (fun e => by have := ho.base_le i e.symm; omega)).trans (h.block i hi)⟩
/-- too many spans are none, with a code -/
def BnSays (L : List (Int × Int)) (b : Nat) (w : World) (e : Ending) (w' : World) : Prop := ∃ v', e = .returned (.tuple #[v', .int .i64 (WM.bCode L)]) ∧ OwnI w b v' (WM.bList L) ∧ w = w'
theorem bounded_any {w : World} {b : Nat} {v : Value} {L : List (Int × Int)} (h : OwnI w b v L) : Calls Tryd.prog 26 #[v] w (BnSays L b w) := by
  obtain ⟨A, cap, rfl, hl, -⟩ := h.form
  by_cases hh : 1000 < L.length
  · have HE : Hid (WM.bCode L = 2 ∧ WM.bList L = []) := Lib.hid (by unfold WM.bCode WM.bList; rw [if_pos hh, if_pos hh]; exact ⟨rfl, rfl⟩)
    clear h
    go_enter Tryd.func26, Tryd.ntmps26
    go_wp2_with fail
    go_ret2
    exact ⟨.slice none 0 0, by rw [HE.out.1]; rfl, by rw [HE.out.2]; exact OwnI.nil _ _, rfl⟩
  · have HE : Hid (WM.bCode L = 0 ∧ WM.bList L = L) := Lib.hid (by unfold WM.bCode WM.bList; rw [if_neg hh, if_neg hh]; exact ⟨rfl, rfl⟩)
    have HO := Lib.hid h
    clear h
    go_enter Tryd.func26, Tryd.ntmps26
    go_wp2_with fail
    go_ret2
    exact ⟨.slice A L.length cap, by rw [HE.out.1]; rfl, by rw [HE.out.2]; exact HO.out, rfl⟩
end Go.Proofs.YtflilepmhidndaaDoor
