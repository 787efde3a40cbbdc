/- Plain mathematics: strings sorted and each once; how many two such lists share; the greatest divisor. -/
import Derived.Test.YtplocijdbadcjaaGreatDoorLX
import Derived.Lib.SlicesCompact
namespace WM
open Go.Lib
abbrev Str := List UInt8
/-- rising, each once -/
def Asc (l : List Str) : Prop := l.Pairwise (· < ·)
theorem le_iff (a b : Str) : a ≤ b ↔ ¬ b < a := Iff.rfl
theorem le_of_lt {a b : Str} (h : a < b) : a ≤ b := Go.Proofs.YtplocijdbadcjaaGreatDoor.LX.asymm h
theorem lt_of_le_ne {a b : Str} (h : a ≤ b) (hn : a ≠ b) : a < b := by
  rcases Go.Proofs.YtplocijdbadcjaaGreatDoor.LX.tri a b with h1 | h1 | h1
  · exact h1
  · exact absurd h1 hn
  · exact absurd h1 h
theorem le_trans {a b c : Str} (h1 : a ≤ b) (h2 : b ≤ c) : a ≤ c := by
  intro h
  rcases Go.Proofs.YtplocijdbadcjaaGreatDoor.LX.tri a b with h3 | h3 | h3
  · exact h2 (Go.Proofs.YtplocijdbadcjaaGreatDoor.LX.trans h h3)
  · subst h3; exact h2 h
  · exact h1 h3
theorem le_total (a b : Str) : a ≤ b ∨ b ≤ a := by
  rcases Go.Proofs.YtplocijdbadcjaaGreatDoor.LX.tri a b with h | h | h
  · exact .inl (le_of_lt h)
  · exact .inl (by rw [h]; exact Go.Proofs.YtplocijdbadcjaaGreatDoor.LX.irrefl b)
  · exact .inr (le_of_lt h)
def sorted (l : List Str) : List Str := l.mergeSort fun x y => decide (x ≤ y)
theorem sorted_pw (l : List Str) : (sorted l).Pairwise (· ≤ ·) := by
  have := List.pairwise_mergeSort (le := fun x y : Str => decide (x ≤ y)) (fun a b c h1 h2 => decide_eq_true (le_trans (of_decide_eq_true h1) (of_decide_eq_true h2))) (fun a b => by
    rcases le_total a b with h | h <;> simp [h]) l
  exact this.imp fun h => of_decide_eq_true h
theorem compact_mem (zs : List Str) (x : Str) : x ∈ compact zs ↔ x ∈ zs := by
  unfold compact compactUpTo
  simp only [List.mem_map, List.mem_filter, List.mem_range]
  have hget : ∀ j, j < zs.length → zs.toArray[j]! = zs.getD j default := fun j hj => by simp [List.getD_eq_getElem?_getD, hj]
  constructor
  · rintro ⟨j, ⟨hj, _⟩, rfl⟩
    rw [hget j hj, List.getD_eq_getElem?_getD, List.getElem?_eq_getElem hj]
    exact List.getElem_mem hj
  · intro hx
    obtain ⟨j, hj, rfl⟩ := List.getElem_of_mem hx
    have : ∀ j, j < zs.length → ∃ i, (i < zs.length ∧ keeps zs.toArray i = true) ∧ zs.toArray[i]! = zs.getD j default := by
      intro j
      induction j with
      | zero => intro hj; exact ⟨0, ⟨hj, keeps_lt_one _ 0 (by omega)⟩, hget 0 hj⟩
      | succ j ih =>
        intro hj
        by_cases h : zs.toArray[j + 1]! = zs.toArray[j + 1 - 1]!
        · obtain ⟨i, hi, e⟩ := ih (by omega)
          refine ⟨i, hi, ?_⟩
          rw [e, ← hget j (by omega), ← hget (j + 1) hj]
          exact h.symm
        · exact ⟨j + 1, ⟨hj, keeps_pos h⟩, hget _ hj⟩
    obtain ⟨i, hi, e⟩ := this j hj
    refine ⟨i, hi, ?_⟩
    rw [e, List.getD_eq_getElem?_getD, List.getElem?_eq_getElem hj]; rfl
theorem compact_asc {zs : List Str} (h : zs.Pairwise (· ≤ ·)) : Asc (compact zs) := by
  unfold Asc compact compactUpTo
  rw [List.pairwise_map]
  have hle : ∀ i j, i ≤ j → j < zs.length → zs.toArray[i]! ≤ zs.toArray[j]! := by
    intro i j hij hj
    have e : ∀ q, q < zs.length → zs.toArray[q]! = zs[q]! := fun q hq => by simp
    rcases Nat.lt_or_ge i j with h1 | h1
    · have := List.pairwise_iff_getElem.1 h i j (by omega) hj h1
      simpa [getElem!_def, show i < zs.length by omega, hj] using this
    · have : i = j := by omega
      subst this
      exact Go.Proofs.YtplocijdbadcjaaGreatDoor.LX.irrefl _
  refine List.Pairwise.imp_of_mem ?_ ((List.pairwise_lt_range (n := zs.length)).filter _)
  intro i j hi hj hij
  simp only [List.mem_filter, List.mem_range] at hi hj
  have hk := hj.2
  simp only [keeps, decide_eq_true_eq] at hk
  rcases hk with hk | hk
  · omega
  · exact Classical.byContradiction fun hn => by
      have h1 := hle i (j - 1) (by omega) (by omega)
      have h2 := hle (j - 1) j (by omega) hj.1
      have h3 : zs.toArray[j - 1]! < zs.toArray[j]! := lt_of_le_ne h2 (Ne.symm hk)
      apply hn
      rcases Go.Proofs.YtplocijdbadcjaaGreatDoor.LX.tri zs.toArray[i]! zs.toArray[j - 1]! with h4 | h4 | h4
      · exact Go.Proofs.YtplocijdbadcjaaGreatDoor.LX.trans h4 h3
      · rw [h4]; exact h3
      · exact absurd h4 h1
/-- sorted, each once -/
def ups (l : List Str) : List Str := compact (sorted l)
theorem ups_asc (l : List Str) : Asc (ups l) := compact_asc (sorted_pw l)
theorem ups_mem (l : List Str) (x : Str) : x ∈ ups l ↔ x ∈ l := by
  unfold ups
  rw [compact_mem]
  exact (List.mergeSort_perm l _).mem_iff
theorem Asc.nodup {l : List Str} (h : Asc l) : l.Nodup := h.imp fun h => Go.Proofs.YtplocijdbadcjaaGreatDoor.LX.ne h
theorem len_le {l m : List Str} (hl : l.Nodup) (h : ∀ x ∈ l, x ∈ m) : l.length ≤ m.length := by
  induction l generalizing m with
  | nil => simp
  | cons x l ih =>
    rw [List.nodup_cons] at hl
    have hx := h x (by simp)
    have := ih hl.2 (m := m.erase x) (fun y hy => (List.mem_erase_of_ne (by rintro rfl; exact hl.1 hy)).2 (h y (by simp [hy])))
    rw [List.length_erase_of_mem hx] at this
    have hm : 0 < m.length := List.length_pos_of_mem hx
    simp; omega
/-- how many of X are in Y -/
def cnt (X Y : List Str) : Nat := (X.filter fun x => decide (x ∈ Y)).length
theorem cnt_nil (Y : List Str) : cnt [] Y = 0 := rfl
theorem cnt_nil' (X : List Str) : cnt X [] = 0 := by simp [cnt]
theorem cnt_lt {x y : Str} {X Y : List Str} (hY : Asc (y :: Y)) (h : x < y) : cnt (x :: X) (y :: Y) = cnt X (y :: Y) := by
  have hn : x ∉ y :: Y := by
    intro hm
    rcases List.mem_cons.1 hm with e | e
    · exact Go.Proofs.YtplocijdbadcjaaGreatDoor.LX.ne h e
    · exact Go.Proofs.YtplocijdbadcjaaGreatDoor.LX.ne (Go.Proofs.YtplocijdbadcjaaGreatDoor.LX.trans h ((List.pairwise_cons.1 hY).1 x e)) rfl
  unfold cnt
  rw [List.filter_cons_of_neg (by simpa using hn)]
theorem cnt_gt {x y : Str} {X Y : List Str} (hX : Asc (x :: X)) (h : y < x) : cnt (x :: X) (y :: Y) = cnt (x :: X) Y := by
  unfold cnt
  congr 1
  apply List.filter_congr
  intro z hz
  have : z ≠ y := by
    rcases List.mem_cons.1 hz with e | e
    · rw [e]; exact (Go.Proofs.YtplocijdbadcjaaGreatDoor.LX.ne h).symm
    · exact (Go.Proofs.YtplocijdbadcjaaGreatDoor.LX.ne (Go.Proofs.YtplocijdbadcjaaGreatDoor.LX.trans h ((List.pairwise_cons.1 hX).1 z e))).symm
  simp [this]
theorem cnt_eq {x : Str} {X Y : List Str} (hX : Asc (x :: X)) : cnt (x :: X) (x :: Y) = 1 + cnt X Y := by
  unfold cnt
  rw [List.filter_cons_of_pos (by simp)]
  rw [List.length_cons, Nat.add_comm]
  congr 2
  apply List.filter_congr
  intro z hz
  have : z ≠ x := (Go.Proofs.YtplocijdbadcjaaGreatDoor.LX.ne ((List.pairwise_cons.1 hX).1 z hz)).symm
  simp [this]
theorem cnt_le (X Y : List Str) : cnt X Y ≤ X.length := List.length_filter_le _ _
theorem cnt_comm {X Y : List Str} (hX : X.Nodup) (hY : Y.Nodup) : cnt X Y = cnt Y X := by
  apply Nat.le_antisymm
  · exact len_le (hX.filter _) fun x hx => by simp at hx ⊢; exact ⟨hx.2, hx.1⟩
  · exact len_le (hY.filter _) fun x hx => by simp at hx ⊢; exact ⟨hx.2, hx.1⟩
theorem filter_not_len (p : Str → Bool) (l : List Str) : (l.filter fun x => !p x).length + (l.filter p).length = l.length := by
  induction l with
  | nil => rfl
  | cons x l ih => cases h : p x <;> simp [h] <;> omega
theorem union_len {X Y U : List Str} (hX : X.Nodup) (hY : Y.Nodup) (hU : U.Nodup) (hm : ∀ x, x ∈ U ↔ x ∈ X ∨ x ∈ Y) : U.length = X.length + Y.length - cnt X Y := by
  have hc := cnt_comm hX hY
  have hf := filter_not_len (fun y => decide (y ∈ X)) Y
  have hd : (X ++ Y.filter fun y => !decide (y ∈ X)).Nodup := by
    rw [List.nodup_append]
    exact ⟨hX, hY.filter _, fun a ha b hb e => by simp at hb; subst e; exact hb.2 ha⟩
  have h1 : U.length ≤ (X ++ Y.filter fun y => !decide (y ∈ X)).length := len_le hU fun x hx => by
    rcases (hm x).1 hx with h | h
    · simp [h]
    · by_cases hx : x ∈ X <;> simp [h, hx]
  have h2 : (X ++ Y.filter fun y => !decide (y ∈ X)).length ≤ U.length := len_le hd fun x hx => by
    rw [hm]
    simp at hx
    rcases hx with h | h
    · exact .inl h
    · exact .inr h.1
  rw [List.length_append] at h1 h2
  have e : cnt Y X = (Y.filter fun y => decide (y ∈ X)).length := rfl
  omega
end WM
