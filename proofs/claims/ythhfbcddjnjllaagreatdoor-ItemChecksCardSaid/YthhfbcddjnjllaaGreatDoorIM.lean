/- The faults of items together, as a list says them. Plain mathematics over Item. -/
import Derived.Test.YthhfbcddjnjllaaGreatDoorItem
import Derived.Test.YthhfbcddjnjllaaGreatDoorFC
import Derived.Test.YthhfbcddjnjllaaGreatDoorLX
namespace Go.Proofs.YthhfbcddjnjllaaGreatDoor
open Go.RowKit

namespace IM
def place (L : List It) (s : List UInt8) : Option Nat := L.findIdx? fun x => x.id.toList == s
def par (L : List It) (x : It) : Option Nat := if x.parent.toList.isEmpty then none else place L x.parent.toList
def U (L : List It) : List (Option Nat) := L.map (par L)
/-- the first fault of an item, or of the order of Ids -/
def eachF : List UInt8 → List It → Int
  | _, [] => 0
  | last, x :: r => if x.fault ≠ 0 then x.fault else if (Op.bytesLess x.id.toList last || x.id.toList == last) = true then 7 else eachF x.id.toList r
def lackB (L : List It) (x : It) : Bool := !x.parent.toList.isEmpty && (place L x.parent.toList).isNone
def lack (L : List It) : List It → Bool
  | [] => false
  | x :: r => lackB L x || lack L r
def kindOk (k : Int) : Bool := k == 1 || k == 3
def mispB (L : List It) (i : Nat) : Bool := match FM.nx (U L) i with
  | none => false
  | some k => match L[k]? with
    | none => false
    | some y => !kindOk y.kind
def depth (L : List It) (i : Nat) : Nat := (FM.chain (U L) (L.length + 1) i).length
def endF (L : List It) : List Nat → Int
  | [] => 0
  | i :: r => if mispB L i = true then 16 else if 4 < depth L i then 2 else endF L r
open Classical in
noncomputable def fault (L : List It) : Int :=
  if 2000 < L.length then 2 else if eachF [] L ≠ 0 then eachF [] L else if lack L L = true then 8 else if FM.cyc (U L) then 14 else endF L (List.range L.length)

theorem U_len (L : List It) : (U L).length = L.length := by simp [U]
theorem U_nx (L : List It) (i : Nat) : FM.nx (U L) i = (L[i]?).bind (par L) := by
  unfold FM.nx U
  rw [List.getElem?_map]
  cases L[i]? <;> rfl
theorem place_some {L : List It} {s : List UInt8} {k : Nat} (h : place L s = some k) : k < L.length ∧ ∃ y, L[k]? = some y ∧ y.id.toList = s := by
  unfold place at h
  rw [List.findIdx?_eq_some_iff_getElem] at h
  obtain ⟨hk, h1, _⟩ := h
  exact ⟨hk, L[k], List.getElem?_eq_getElem hk, by simpa using h1⟩
theorem place_none {L : List It} {s : List UInt8} (h : place L s = none) {k : Nat} {y : It} (hy : L[k]? = some y) : y.id.toList ≠ s := by
  unfold place at h
  rw [List.findIdx?_eq_none_iff] at h
  have := h y (List.mem_of_getElem? hy)
  simpa using this
theorem place_first {L : List It} {s : List UInt8} {k : Nat} {y : It} (hy : L[k]? = some y) (e : y.id.toList = s) (hlt : ∀ (j : Nat) (z : It), j < k → L[j]? = some z → z.id.toList ≠ s) : place L s = some k := by
  unfold place
  rw [List.findIdx?_eq_some_iff_getElem]
  have hk : k < L.length := (List.getElem?_eq_some_iff.1 hy).1
  refine ⟨hk, ?_, fun j hj => ?_⟩
  · rw [List.getElem?_eq_getElem hk] at hy
    injection hy with hy
    rw [hy, e]; simp
  · have := hlt j L[j] hj (List.getElem?_eq_getElem (by omega))
    simpa using this
theorem place_none_of {L : List It} {s : List UInt8} (h : ∀ (j : Nat) (z : It), L[j]? = some z → z.id.toList ≠ s) : place L s = none := by
  unfold place
  rw [List.findIdx?_eq_none_iff]
  intro x hx
  obtain ⟨j, hj⟩ := List.getElem?_of_mem hx
  simpa using h j x hj
theorem U_good (L : List It) : FM.good (U L) := by
  intro i p h
  rw [U_len]
  rw [U_nx] at h
  cases hx : L[i]? with
  | none => rw [hx] at h; cases h
  | some x =>
    rw [hx] at h
    change par L x = some p at h
    unfold par at h
    split at h
    · cases h
    · exact (place_some h).1
/-- Ids rise -/
def rises (L : List It) : Prop := ∀ (i j : Nat) (x y : It), i < j → L[i]? = some x → L[j]? = some y → x.id.toList < y.id.toList
theorem not_leq {a b : List UInt8} (h : (Op.bytesLess a b || a == b) = false) : b < a := by
  simp [LX.less_eq] at h
  rcases LX.tri a b with h1 | h1 | h1
  · exact absurd (h1) h.1
  · exact absurd h1 h.2
  · exact h1
theorem eachF_zero : ∀ (L : List It) (last : List UInt8), eachF last L = 0 → (∀ x ∈ L, x.fault = 0 ∧ last < x.id.toList) ∧ rises L := by
  intro L
  induction L with
  | nil => intro last _; exact ⟨fun x hx => by (cases hx), fun i j x y _ h => by simp at h⟩
  | cons a r ih =>
    intro last h
    unfold eachF at h
    split at h
    · rename_i h1; exact absurd h h1
    rename_i h1
    have hf : a.fault = 0 := by simpa using h1
    split at h
    · cases h
    rename_i h2
    have h2 : last < a.id.toList := not_leq (by simpa using h2)
    obtain ⟨h3, h4⟩ := ih _ h
    refine ⟨fun x hx => ?_, fun i j x y hij hi hj => ?_⟩
    · rcases List.mem_cons.1 hx with rfl | hx
      · exact ⟨hf, h2⟩
      · exact ⟨(h3 x hx).1, LX.trans h2 (h3 x hx).2⟩
    · obtain ⟨j, rfl⟩ : ∃ m, j = m + 1 := ⟨j - 1, by omega⟩
      rw [List.getElem?_cons_succ] at hj
      cases i with
      | zero =>
        rw [List.getElem?_cons_zero] at hi
        injection hi with hi
        subst hi
        exact (h3 y (List.mem_of_getElem? hj)).2
      | succ i =>
        rw [List.getElem?_cons_succ] at hi
        exact h4 i j x y (by omega) hi hj
/-- what a search by halves finds -/
theorem place_half {L : List It} (hr : rises L) {s : List UInt8} {i : Nat} (h1 : ∀ (j : Nat) (z : It), j < i → L[j]? = some z → z.id.toList < s) (h2 : ∀ (j : Nat) (z : It), i ≤ j → L[j]? = some z → ¬ z.id.toList < s) :
    (∀ y, L[i]? = some y → y.id.toList = s → place L s = some i) ∧ ((∀ y, L[i]? = some y → y.id.toList ≠ s) → place L s = none) := by
  refine ⟨fun y hy e => place_first hy e fun j z hj hz => LX.ne (h1 j z hj hz), fun h => place_none_of fun j z hz e => ?_⟩
  rcases Nat.lt_trichotomy j i with hj | rfl | hj
  · exact LX.ne (h1 j z hj hz) e
  · exact h z hz e
  · have hi : i < L.length := by have := (List.getElem?_eq_some_iff.1 hz).1; omega
    have hy := List.getElem?_eq_getElem hi
    have := hr i j _ z hj hy hz
    rw [e] at this
    exact h2 i _ (Nat.le_refl _) hy this
theorem half_low {L : List It} (hr : rises L) {s : List UInt8} {h : Nat} {y : It} (hy : L[h]? = some y) (hl : y.id.toList < s) : ∀ (j : Nat) (z : It), j < h + 1 → L[j]? = some z → z.id.toList < s := by
  intro j z hj hz
  rcases Nat.lt_or_ge j h with h1 | h1
  · exact LX.trans (hr j h z y h1 hz hy) hl
  · have e : j = h := by omega
    subst e
    rw [hy] at hz; injection hz with hz; subst hz; exact hl
theorem half_high {L : List It} (hr : rises L) {s : List UInt8} {h : Nat} {y : It} (hy : L[h]? = some y) (hl : ¬ y.id.toList < s) : ∀ (j : Nat) (z : It), h ≤ j → L[j]? = some z → ¬ z.id.toList < s := by
  intro j z hj hz hlt
  rcases Nat.lt_or_ge h j with h1 | h1
  · exact hl (LX.trans (hr h j y z h1 hy hz) hlt)
  · have e : j = h := by omega
    subst e
    rw [hy] at hz; injection hz with hz; subst hz; exact hl hlt
end IM
end Go.Proofs.YthhfbcddjnjllaaGreatDoor
