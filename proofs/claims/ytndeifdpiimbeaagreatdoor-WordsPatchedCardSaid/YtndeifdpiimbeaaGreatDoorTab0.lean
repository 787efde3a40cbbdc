/- Tables of two dimensions that the call makes; the program's table of what can be kept. -/
import Derived.Test.YtndeifdpiimbeaaGreatDoorRowS
import Derived.Test.YtndeifdpiimbeaaGreatDoorBlk
import Derived.Test.YtndeifdpiimbeaaGreatDoorPlain
import Derived.Deep.OwnRows
import Derived.BigRegion
import Derived.BigQuiet
namespace Go.Proofs.YtndeifdpiimbeaaGreatDoor
open Go.RowKit

def topV (B m c : Nat) : Nat → Value := fun j => if j < c then .slice (some ⟨B + 1 + j, 0, none⟩) m m else .slice none 0 0
/-- c rows of a table are made -/
structure Mk (w wr : World) (tt te : TypeId) (K : IntKind) (n m c : Nat) : Prop where
  below : Below w.heap.size w wr
  size : wr.heap.size = w.heap.size + 1 + c
  top : wr.rowIs w.heap.size tt n (topV w.heap.size m c)
  rows : ∀ j, j < c → wr.rowIs (w.heap.size + 1 + j) te m (fun _ => .int K 0)
theorem Mk.start (w : World) (tt te : TypeId) (K : IntKind) (n m : Nat) : Mk w (w.alloc (.cells (madeCells #[.slice none 0 0] n) tt)) tt te K n m 0 :=
  ⟨(Below.refl _ _).alloc (Nat.le_refl _) _, by simp, (World.rowIs_made w _ n tt).congr (fun j _ => by simp [topV]), fun j hj => absurd hj (Nat.not_lt_zero _)⟩
theorem below_setCell {B : Nat} {a w : World} (h : Below B a w) {p : Addr} (hp : B ≤ p.block) (u : Value) : Below B a (w.setCell p u) :=
  ⟨h.os, h.tape, h.output, by simpa [World.setCell] using h.size, fun i hi => (Below.heap_setCell w p u i (by omega)).trans (h.block i hi)⟩
theorem Mk.step {w wr : World} {tt te : TypeId} {K : IntKind} {n m c : Nat} (h : Mk w wr tt te K n m c) :
    Mk w ((wr.alloc (.cells (madeCells #[.int K 0] m) te)).setCell ⟨w.heap.size, c, none⟩ (.slice (some ⟨w.heap.size + 1 + c, 0, none⟩) m m)) tt te K n m (c + 1) := by
  have hnew := World.rowIs_made wr (.int K 0) m te
  have hs := h.size
  rw [hs] at hnew
  refine ⟨below_setCell (h.below.alloc (by omega) _) (Nat.le_refl _) _, by simp [World.setCell, hs]; omega, ((h.top.alloc _).set c _).congr (fun j _ => ?_), fun j hj => ?_⟩
  · simp only [topV]
    by_cases e : j = c
    · subst e; simp
    · rw [if_neg e]
      by_cases hlt : j < c
      · rw [if_pos hlt, if_pos (by omega)]
      · rw [if_neg hlt, if_neg (by omega)]
  · by_cases e : j = c
    · subst e
      exact hnew.setOther (by show w.heap.size + 1 + j ≠ w.heap.size; omega) _
    · exact ((h.rows j (by omega)).alloc _).setOther (by show w.heap.size + 1 + j ≠ w.heap.size; omega) _
/-- a table with n rows of m numbers -/
structure Tab (w wr : World) (tt te : TypeId) (K : IntKind) (n m : Nat) (V : Nat → Nat → Int) : Prop where
  below : Below w.heap.size w wr
  size : wr.heap.size = w.heap.size + 1 + n
  top : wr.rowIs w.heap.size tt n (fun j => .slice (some ⟨w.heap.size + 1 + j, 0, none⟩) m m)
  rows : ∀ j, j < n → wr.rowIs (w.heap.size + 1 + j) te m (fun r => .int K (V j r))
theorem Mk.done {w wr : World} {tt te : TypeId} {K : IntKind} {n m : Nat} (h : Mk w wr tt te K n m n) : Tab w wr tt te K n m (fun _ _ => 0) :=
  ⟨h.below, h.size, h.top.congr (fun j hj => by simp [topV, hj]), h.rows⟩
section
variable {w wr : World} {tt te : TypeId} {K : IntKind} {n m : Nat} {V : Nat → Nat → Int}
theorem Tab.congr (h : Tab w wr tt te K n m V) {V' : Nat → Nat → Int} (e : ∀ i j, i < n → j < m → V i j = V' i j) : Tab w wr tt te K n m V' :=
  ⟨h.below, h.size, h.top, fun j hj => (h.rows j hj).congr (fun r hr => by rw [e j r hj hr])⟩
theorem Tab.drewN (h : Tab w wr tt te K n m V) (q : Nat) : Tab w (wr.drewN q) tt te K n m V := ⟨below_drewN h.below q, h.size, h.top, h.rows⟩
theorem Tab.drew (h : Tab w wr tt te K n m V) : Tab w wr.drew tt te K n m V := ⟨⟨h.below.os, h.below.tape, h.below.output, h.below.size, h.below.block⟩, h.size, h.top, h.rows⟩
theorem Tab.set (h : Tab w wr tt te K n m V) (i j : Nat) (v : Int) : Tab w (wr.setCell ⟨w.heap.size + 1 + i, j, none⟩ (.int K v)) tt te K n m (fun a b => if a = i ∧ b = j then v else V a b) := by
  refine ⟨below_setCell h.below (by show w.heap.size ≤ w.heap.size + 1 + i; omega) _, by simp [World.setCell, h.size], h.top.setOther (by show w.heap.size ≠ w.heap.size + 1 + i; omega) _, fun a ha => ?_⟩
  by_cases e : a = i
  · subst e
    refine ((h.rows a ha).set j _).congr fun b hb => ?_
    by_cases eb : b = j
    · rw [if_pos eb, if_pos ⟨rfl, eb⟩]
    · rw [if_neg eb, if_neg (fun q => eb q.2)]
  · refine ((h.rows a ha).setOther (by show w.heap.size + 1 + a ≠ w.heap.size + 1 + i; omega) _).congr fun b hb => ?_
    rw [if_neg (fun q => e q.1)]
theorem Tab.at_top (h : Tab w wr tt te K n m V) {i : Nat} (hi : i < n) : wr.cell? ⟨w.heap.size, i, none⟩ = some (.slice (some ⟨w.heap.size + 1 + i, 0, none⟩) m m) := h.top.cell hi
theorem Tab.at_ (h : Tab w wr tt te K n m V) {i j : Nat} (hi : i < n) (hj : j < m) : wr.cell? ⟨w.heap.size + 1 + i, j, none⟩ = some (.int K (V i j)) := (h.rows i hi).cell hj
theorem Tab.frozen (h : Tab w wr tt te K n m V) {i : Nat} (hi : i < n) (j : Nat) : wr.frozen? ⟨w.heap.size + 1 + i, j, none⟩ = false := (h.rows i hi).frozen j
end
/-- what is filled: the rows below k, and row k from j on -/
def fillV (A B : List ByteArray) (k j : Nat) : Nat → Nat → Int := fun a b => if k < a ∨ (a = k ∧ j ≤ b) then (WM.tb A B a b : Int) else 0
theorem fill_start (A B : List ByteArray) (a b : Nat) (ha : a < A.length + 1) : (0 : Int) = fillV A B A.length 0 a b := by
  unfold fillV
  split
  · rename_i h
    obtain rfl : a = A.length := by omega
    rw [WM.tb_end1]; rfl
  · rfl
theorem fill_row (A B : List ByteArray) (k a b : Nat) (hb : b < B.length + 1) : fillV A B (k + 1) 0 a b = fillV A B k B.length a b := by
  unfold fillV
  by_cases h : k < a
  · rw [if_pos (by omega), if_pos (.inl h)]
  · by_cases h2 : a = k ∧ B.length ≤ b
    · rw [if_neg (by omega), if_pos (.inr h2)]
      obtain rfl : b = B.length := by omega
      rw [WM.tb_end2]; rfl
    · rw [if_neg (by omega), if_neg (by omega)]
theorem fill_set (A B : List ByteArray) (k j a b : Nat) : (if a = k ∧ b = j then (WM.tb A B k j : Int) else fillV A B k (j + 1) a b) = fillV A B k j a b := by
  unfold fillV
  by_cases h : a = k ∧ b = j
  · obtain ⟨rfl, rfl⟩ := h
    rw [if_pos ⟨rfl, rfl⟩, if_pos (.inr ⟨rfl, Nat.le_refl _⟩)]
  · rw [if_neg h]
    by_cases h2 : k < a ∨ (a = k ∧ j ≤ b)
    · rw [if_pos (by omega), if_pos h2]
    · rw [if_neg (by omega), if_neg h2]
theorem fill_done (A B : List ByteArray) (a b : Nat) : fillV A B 0 0 a b = (WM.tb A B a b : Int) := by
  unfold fillV
  rw [if_pos (by omega)]
theorem fill_at (A B : List ByteArray) (k j : Nat) : fillV A B k j (k + 1) j = (WM.tb A B (k + 1) j : Int) := by unfold fillV; rw [if_pos (by omega)]
theorem fill_at1 (A B : List ByteArray) (k j : Nat) (b : Nat) : fillV A B k (j + 1) (k + 1) b = (WM.tb A B (k + 1) b : Int) := by unfold fillV; rw [if_pos (by omega)]
theorem fill_at2 (A B : List ByteArray) (k j : Nat) : fillV A B k (j + 1) k (j + 1) = (WM.tb A B k (j + 1) : Int) := by unfold fillV; rw [if_pos (by omega)]
/-- an argument that is a row of strings, its cells for good -/
def Rd (w : World) (A : Option Addr) (l : List ByteArray) : Prop := 0 < l.length → ∃ g, A = some ⟨g, 0, none⟩ ∧ g < w.heap.size ∧ ∀ j s, l[j]? = some s → w.cell? ⟨g, j, none⟩ = some (.string s)
theorem OwnS.rd {w : World} {base : Nat} {v : Value} {l : List ByteArray} (h : OwnS w base v l) : ∃ (A : Option Addr) (cap : Nat), v = .slice A l.length cap ∧ Rd w A l := by
  obtain ⟨A, cap, rfl, hf⟩ := h.form
  exact ⟨A, cap, rfl, fun h0 => by obtain ⟨g, e, _, hl, hc⟩ := hf h0; exact ⟨g, e, hl, hc⟩⟩
theorem OwnS.cap_le {w : World} {base : Nat} {A : Option Addr} {n c : Nat} {l : List ByteArray} (h : OwnS w base (.slice A n c) l) : l.length ≤ c := by
  rcases h.2 with ⟨e, h2⟩ | ⟨g, cap, cur, e, hg, hh, hn, hc, hsz, ht⟩
  · omega
  · injection e with e1 e2 e3
    omega
theorem Rd.below {w w' : World} {A : Option Addr} {l : List ByteArray} (h : Rd w A l) (hb : Below w.heap.size w w') : Rd w' A l := fun h0 => by
  obtain ⟨g, e, hl, hc⟩ := h h0
  exact ⟨g, e, Nat.lt_of_lt_of_le hl hb.size, fun j s hs => (hb.cell (p := ⟨g, j, none⟩) hl).trans (hc j s hs)⟩
theorem tl_inj {a b : ByteArray} (h : a.toList = b.toList) : a = b := by
  rw [ByteArray.toList_eq, ByteArray.toList_eq] at h
  cases a; cases b; simpa using h
end Go.Proofs.YtndeifdpiimbeaaGreatDoor
