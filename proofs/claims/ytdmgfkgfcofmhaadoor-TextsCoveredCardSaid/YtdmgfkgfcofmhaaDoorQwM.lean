/- What query.Words finds: the longest runs of bytes of words: plain mathematics. -/
import Derived.Test.YtdmgfkgfcofmhaaDoorQWords
namespace WM
/-- byte i is a byte of a word -/
def wdb (l : List UInt8) (i : Nat) : Bool := decide (i < l.length) && wordB (l.getD i 0)
/-- from x.1 to x.2 is a whole word -/
def IsWord (l : List UInt8) (x : Nat × Nat) : Prop := x.1 < x.2 ∧ x.2 ≤ l.length ∧ (∀ i, x.1 ≤ i → i < x.2 → wdb l i = true) ∧ (x.1 = 0 ∨ wdb l (x.1 - 1) = false) ∧ wdb l x.2 = false
structure QwOk (l : List UInt8) (k : Nat) : Prop where
  le : (qw l k).1 ≤ k
  run : ∀ i, (qw l k).1 ≤ i → i < k → wdb l i = true
  left : (qw l k).1 = 0 ∨ wdb l ((qw l k).1 - 1) = false
  words : ∀ x, x ∈ (qw l k).2 → IsWord l x ∧ x.2 < (qw l k).1
  all : ∀ i, i < (qw l k).1 → wdb l i = true → ∃ x, x ∈ (qw l k).2 ∧ x.1 ≤ i ∧ i < x.2
theorem wdb_lt {l : List UInt8} {i : Nat} (h : wdb l i = true) : i < l.length := by
  unfold wdb at h
  simp only [Bool.and_eq_true, decide_eq_true_eq] at h
  exact h.1
theorem qw_ok (l : List UInt8) : ∀ k, QwOk l k
  | 0 => ⟨Nat.le_refl _, fun i _ h => by omega, .inl rfl, fun x hx => by simp [qw] at hx, fun i h => by simp [qw] at h⟩
  | k + 1 => by
    have ih := qw_ok l k
    cases hc : wdb l k
    · have e := qw_out (l := l) (k := k) hc
      have e1 : (qw l (k + 1)).1 = k + 1 := by rw [e]
      by_cases hf : (qw l k).1 < k
      · have e2 : (qw l (k + 1)).2 = (qw l k).2 ++ [((qw l k).1, k)] := by rw [e]; simp [hf]
        have hw : IsWord l ((qw l k).1, k) := ⟨hf, by have := wdb_lt (ih.run (k - 1) (by omega) (by omega)); show k ≤ _; omega, fun i h1 h2 => ih.run i h1 h2, ih.left, hc⟩
        refine ⟨by rw [e1]; exact Nat.le_refl _, fun i h1 h2 => by rw [e1] at h1; omega, .inr (by rw [e1]; exact hc), fun x hx => ?_, fun i h1 h2 => ?_⟩
        · rw [e2] at hx
          rw [e1]
          rcases List.mem_append.1 hx with hx | hx
          · have := ih.words x hx
            exact ⟨this.1, by have := this.2; have := ih.le; omega⟩
          · rw [List.mem_singleton.1 hx]
            exact ⟨hw, Nat.lt_succ_self _⟩
        · rw [e2]
          rw [e1] at h1
          by_cases h3 : i < (qw l k).1
          · obtain ⟨x, hx, h4⟩ := ih.all i h3 h2
            exact ⟨x, List.mem_append_left _ hx, h4⟩
          · have h5 : i ≠ k := fun h => by rw [h, hc] at h2; cases h2
            exact ⟨_, List.mem_append_right _ (List.mem_singleton.2 rfl), by show (qw l k).1 ≤ i; omega, by show i < k; omega⟩
      · have e2 : (qw l (k + 1)).2 = (qw l k).2 := by rw [e]; simp [hf]
        refine ⟨by rw [e1]; exact Nat.le_refl _, fun i h1 h2 => by rw [e1] at h1; omega, .inr (by rw [e1]; exact hc), fun x hx => ?_, fun i h1 h2 => ?_⟩
        · rw [e2] at hx
          rw [e1]
          have := ih.words x hx
          exact ⟨this.1, by have := this.2; have := ih.le; omega⟩
        · rw [e2]
          rw [e1] at h1
          have h5 : i ≠ k := fun h => by rw [h, hc] at h2; cases h2
          have := ih.le
          exact ih.all i (by omega) h2
    · have hl := wdb_lt hc
      have e := qw_in (l := l) (k := k) hl (by unfold wdb at hc; simp only [Bool.and_eq_true] at hc; exact hc.2)
      refine ⟨by rw [e]; have := ih.le; omega, fun i h1 h2 => ?_, by rw [e]; exact ih.left, by rw [e]; exact ih.words, by rw [e]; exact ih.all⟩
      rw [e] at h1
      by_cases h3 : i = k
      · rw [h3]; exact hc
      · exact ih.run i h1 (by omega)
/-- the words of l, and every byte of a word is in one -/
theorem qw_words (l : List UInt8) : (∀ x, x ∈ (qw l (l.length + 1)).2 → IsWord l x) ∧ ∀ i, wdb l i = true → ∃ x, x ∈ (qw l (l.length + 1)).2 ∧ x.1 ≤ i ∧ i < x.2 := by
  have h := qw_ok l (l.length + 1)
  have hout : wdb l l.length = false := by unfold wdb; rw [decide_eq_false (by omega)]; rfl
  have e1 : (qw l (l.length + 1)).1 = l.length + 1 := by rw [qw_out hout]
  exact ⟨fun x hx => (h.words x hx).1, fun i hi => h.all i (by have := wdb_lt hi; omega) hi⟩
end WM
