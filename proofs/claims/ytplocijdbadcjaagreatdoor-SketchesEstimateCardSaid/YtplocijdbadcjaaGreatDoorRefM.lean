/- Plain mathematics: runs of bytes, followed by two loops. -/
import Derived.Test.YtplocijdbadcjaaGreatDoorWM
namespace WM
/-- the runs from i on give what the runs of s are -/
def AtR (s : ByteArray) (i : Nat) (st : Option Nat) (acc : List (Nat × Nat)) : Prop := ∃ f, s.size ≤ i + f ∧ runsB wordB s f i st acc = runsB wordB s s.size 0 none []
theorem AtR.start (s : ByteArray) : AtR s 0 none [] := ⟨s.size, by omega, rfl⟩
theorem AtR.no {s : ByteArray} {i : Nat} {st : Option Nat} {acc : List (Nat × Nat)} (h : AtR s i st acc) (hi : i < s.size) (hq : wordB (s.get! i) = false) : AtR s (i + 1) none (nxt acc st i) := by
  obtain ⟨f, hf, he⟩ := h
  cases f with
  | zero => omega
  | succ f => exact ⟨f, by omega, by rw [← he, runsB_no hi hq]⟩
theorem AtR.yes {s : ByteArray} {i : Nat} {st : Option Nat} {acc : List (Nat × Nat)} (h : AtR s i st acc) (hi : i < s.size) (hq : wordB (s.get! i) = true) : AtR s (i + 1) (some (st.getD i)) acc := by
  obtain ⟨f, hf, he⟩ := h
  cases f with
  | zero => omega
  | succ f => exact ⟨f, by omega, by rw [← he, runsB_yes hi hq]⟩
theorem AtR.stop {s : ByteArray} {i : Nat} {st : Option Nat} {acc : List (Nat × Nat)} (h : AtR s i st acc) (hi : ¬ i < s.size) : runs wordB s = Go.Lib.closeSpans s (acc, st) := by
  obtain ⟨f, hf, he⟩ := h
  unfold runs
  rw [← he, runsB_end _ _ _ _ _ _ hi]
/-- at the outer loop's head -/
def OutR (s : ByteArray) (i : Nat) (acc : List (Nat × Nat)) : Prop := (i ≤ s.size ∧ AtR s i none acc) ∨ (i = s.size + 1 ∧ acc = runs wordB s)
theorem OutR.le {s : ByteArray} {i : Nat} {acc : List (Nat × Nat)} (h : OutR s i acc) : i ≤ s.size + 1 := by rcases h with h | h <;> omega
theorem OutR.done {s : ByteArray} {i : Nat} {acc : List (Nat × Nat)} (h : OutR s i acc) (hi : ¬ i < s.size) : acc = runs wordB s := by
  rcases h with ⟨_, h⟩ | ⟨_, h⟩
  · rw [h.stop hi]; rfl
  · exact h
theorem OutR.at_ {s : ByteArray} {i : Nat} {acc : List (Nat × Nat)} (h : OutR s i acc) (hi : i < s.size) : AtR s i none acc := by
  rcases h with ⟨_, h⟩ | ⟨h, _⟩
  · exact h
  · omega
theorem OutR.skip {s : ByteArray} {i : Nat} {acc : List (Nat × Nat)} (h : OutR s i acc) (hi : i < s.size) (hq : wordB (s.get! i) = false) : OutR s (i + 1) acc := .inl ⟨by omega, (h.at_ hi).no hi hq⟩
/-- at the inner loop's head: a run that began at i -/
def InR (s : ByteArray) (i k : Nat) (acc : List (Nat × Nat)) : Prop := i < s.size ∧ i ≤ k ∧ k ≤ s.size ∧ wordB (s.get! i) = true ∧ ∃ st : Option Nat, st.getD k = i ∧ (st = none → k = i) ∧ AtR s k st acc
theorem InR.start {s : ByteArray} {i : Nat} {acc : List (Nat × Nat)} (h : OutR s i acc) (hi : i < s.size) (hq : wordB (s.get! i) = true) : InR s i i acc := ⟨hi, Nat.le_refl _, by omega, hq, none, rfl, fun _ => rfl, h.at_ hi⟩
theorem InR.more {s : ByteArray} {i k : Nat} {acc : List (Nat × Nat)} (h : InR s i k acc) (hk : k < s.size) (hq : wordB (s.get! k) = true) : InR s i (k + 1) acc := by
  obtain ⟨h1, h2, h3, h4, st, h5, h6, h7⟩ := h
  exact ⟨h1, by omega, by omega, h4, _, by simp [h5], (fun h => by cases h), h7.yes hk hq⟩
theorem InR.done {s : ByteArray} {i k : Nat} {acc : List (Nat × Nat)} (h : InR s i k acc) (hk : k < s.size → wordB (s.get! k) = false) : OutR s (k + 1) (acc ++ [(i, k)]) ∧ i < k ∧ k ≤ s.size := by
  obtain ⟨h1, h2, h3, h4, st, h5, h6, h7⟩ := h
  have hne : k ≠ i := by
    rintro rfl
    rw [hk h1] at h4; cases h4
  obtain ⟨a, rfl⟩ : ∃ a, st = some a := by
    cases st with
    | none => exact absurd (h6 rfl) hne
    | some a => exact ⟨a, rfl⟩
  have : a = i := h5
  subst this
  refine ⟨?_, by omega, h3⟩
  by_cases hlt : k < s.size
  · exact .inl ⟨by omega, h7.no hlt (hk hlt)⟩
  · exact .inr ⟨by omega, by rw [h7.stop hlt]; have : k = s.size := by omega
                             subst this; rfl⟩
end WM
