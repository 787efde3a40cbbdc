/- What LeaksOf puts together: plain mathematics; rows of spans by two names. -/
import Derived.Test.YtdmgfkgfcofmhaaDoorSeenOf
import Derived.Test.YtdmgfkgfcofmhaaDoorLeaks
namespace PT
/-- one span covers the code points from its first to its last -/
theorem cov_span {l : List UInt8} {P Q : Nat} (hPQ : P < Q) (hQ : Q ≤ l.length) (j : Nat) : covB l (WM.cov [((P : Int), (Q : Int))]) j = (decide (dn l P ≤ j) && decide (j < up l Q)) := by
  have h := cov_st (l := l) (L := [((P : Int), (Q : Int))]) (fun x hx => by rw [List.mem_singleton.1 hx]; dsimp only; omega) j
  rw [Bool.eq_iff_iff, covB_iff, ← h, List.map_singleton, WM.cov_one]
  simp only [st, Int.toNat_natCast, Bool.and_eq_true, decide_eq_true_eq]
  omega
end PT
namespace WM
theorem bytes_eq {s t : ByteArray} (h : s.data.toList = t.data.toList) : s = t := ByteArray.ext (Array.toList_inj.1 h)
/-- what of A .. B lies among the first i bytes -/
def partS (s : ByteArray) (A B i : Nat) : ByteArray := s.extract A (min i B)
theorem part_zero (s : ByteArray) (A B : Nat) : partS s A B 0 = ⟨#[]⟩ := by
  apply bytes_eq
  unfold partS
  rw [extract_list, Nat.zero_min, List.take_zero, List.drop_nil]
theorem part_on {s : ByteArray} {A B i : Nat} (h1 : A ≤ i) (h2 : i < B) (h3 : i < s.size) : partS s A B i ++ s.extract i (i + 1) = partS s A B (i + 1) := by
  have hl : s.data.toList.length = s.size := by simp
  apply bytes_eq
  unfold partS
  rw [ByteArray.data_append, Array.toList_append, extract_list, extract_list, extract_list, Nat.min_eq_left (by omega), Nat.min_eq_left (by omega)]
  rw [List.take_succ_eq_append_getElem (by omega : i < s.data.toList.length)]
  have e : (s.data.toList.take i).drop i = [] := List.drop_eq_nil_of_le (by rw [List.length_take]; omega)
  rw [List.drop_append_of_le_length (by rw [List.length_take]; omega), List.drop_append_of_le_length (by rw [List.length_take]; omega), e]
  rfl
theorem part_off {s : ByteArray} {A B i : Nat} (h : ¬ (A ≤ i ∧ i < B)) (hAB : A < B) : partS s A B (i + 1) = partS s A B i := by
  by_cases h1 : i < A
  · apply bytes_eq
    unfold partS
    rw [extract_list, extract_list, List.drop_eq_nil_of_le (by rw [List.length_take]; omega), List.drop_eq_nil_of_le (by rw [List.length_take]; omega)]
  · unfold partS
    rw [Nat.min_eq_right (by omega), Nat.min_eq_right (by omega)]
theorem part_all {s : ByteArray} {A B : Nat} (h : B ≤ s.size) : partS s A B s.size = s.extract A B := by unfold partS; rw [Nat.min_eq_right h]
theorem part_size (s : ByteArray) (A B i : Nat) : (partS s A B i).size ≤ s.size := by unfold partS; rw [ByteArray.size_extract]; omega
end WM
namespace Go.Proofs.YtdmgfkgfcofmhaaDoor
open Go.RowKit

theorem span_cells : ∀ L : List (Nat × Nat), Lib.spanCells L = icells (L.map WM.toI)
  | [] => rfl
  | x :: L => by
    have := span_cells L
    simp [Lib.spanCells, icells, WM.toI] at this ⊢
    exact this
theorem OwnP.toI {w : World} {base : Nat} {v : Value} {L : List (Nat × Nat)} (h : OwnP w base v L) : OwnI w base v (L.map WM.toI) := by
  unfold OwnP at h
  unfold OwnI
  rw [span_cells] at h
  rw [List.length_map]
  exact h
/-- a byte of P .. Q is covered where a span touches it -/
theorem touch_iff {l : List UInt8} {L : List (Int × Int)} (hL : ∀ x, x ∈ L → 0 ≤ x.1 ∧ x.1 < x.2 ∧ x.2 ≤ l.length) {P Q : Nat} (hPQ : P < Q) : (∃ k : Nat, k < Q - P ∧ PT.covB l (WM.cov L) (P + k) = true) ↔ (L.map (PT.st l)).any (inT P Q) = true := by
  have hin := PT.st_in hL
  rw [List.any_eq_true]
  constructor
  · rintro ⟨k, hk, h⟩
    rw [PT.covB_iff, ← PT.cov_st hL] at h
    obtain ⟨t, ht, h1, h2⟩ := h
    refine ⟨t, ht, ?_⟩
    unfold inT
    rw [decide_eq_true (by omega), decide_eq_true (by omega)]
    rfl
  · rintro ⟨t, ht, h⟩
    have := hin t ht
    unfold inT at h
    simp only [Bool.and_eq_true, decide_eq_true_eq] at h
    refine ⟨(max t.1 P).toNat - P, by omega, ?_⟩
    rw [PT.covB_iff, ← PT.cov_st hL]
    exact ⟨t, ht, by omega, by omega⟩
theorem qwords_map (s : ByteArray) : WM.qwords s = (WM.runs WM.wordB s).map (WM.wordAt (WM.small s)) := by rw [WM.runs_qw]; rfl
end Go.Proofs.YtdmgfkgfcofmhaaDoor
