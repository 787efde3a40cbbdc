/- Phrases in a text: plain mathematics. -/
import Derived.Test.YtopdpooflihlpaaDoorSpM
import Derived.Lib.IndexMore
namespace WM
/-- phrase p occurs in the text l at j -/
def occ (l p : List UInt8) (j : Nat) : Bool := Go.Lib.occAt l p j
/-- number i is in a place of one of the phrases -/
def phC (l : List UInt8) (Q : List (List UInt8)) (i : Int) : Prop := ∃ q, q ∈ Q ∧ ∃ j : Nat, occ l q j = true ∧ (j : Int) ≤ i ∧ i < j + q.length
theorem phC_snoc (l : List UInt8) (Q : List (List UInt8)) (q : List UInt8) (i : Int) : phC l (Q ++ [q]) i ↔ phC l Q i ∨ ∃ j : Nat, occ l q j = true ∧ (j : Int) ≤ i ∧ i < j + q.length := by
  constructor
  · rintro ⟨p, hp, h⟩
    rcases List.mem_append.1 hp with hp | hp
    · exact .inl ⟨p, hp, h⟩
    · rw [List.mem_singleton.1 hp] at h; exact .inr h
  · rintro (⟨p, hp, h⟩ | h)
    · exact ⟨p, List.mem_append_left _ hp, h⟩
    · exact ⟨q, by simp, h⟩
theorem occ_room {l p : List UInt8} {j : Nat} (h : occ l p j = true) (hp : 0 < p.length) : j + p.length ≤ l.length := by
  unfold occ Go.Lib.occAt at h
  have h1 := (List.isPrefixOf_iff_prefix.1 h).length_le
  rw [List.length_drop] at h1
  omega
theorem occ_drop (l p : List UInt8) (k i : Nat) : occ (l.drop k) p i = occ l p (k + i) := by
  unfold occ Go.Lib.occAt
  rw [List.drop_drop]
/-- the ends of the longest phrases -/
structure EndsOf (l : List UInt8) (Q : List (List UInt8)) (j e : Nat) : Prop where
  le : ∀ q, q ∈ Q → occ l q j = true → j + q.length ≤ e
  is : e = 0 ∨ ∃ q, q ∈ Q ∧ occ l q j = true ∧ e = j + q.length
theorem EndsOf.start (l : List UInt8) (j : Nat) : EndsOf l [] j 0 := ⟨fun q hq => (by cases hq), .inl rfl⟩
theorem EndsOf.hit {l : List UInt8} {Q : List (List UInt8)} {j e : Nat} {q : List UInt8} (h : EndsOf l Q j e) (ho : occ l q j = true) : EndsOf l (Q ++ [q]) j (max e (j + q.length)) :=
  ⟨fun p hp h1 => by
    rcases List.mem_append.1 hp with hp | hp
    · have := h.le p hp h1; omega
    · rw [List.mem_singleton.1 hp]; omega, by
    rcases Nat.lt_or_ge e (j + q.length) with h1 | h1
    · exact .inr ⟨q, by simp, ho, by omega⟩
    · rcases h.is with h2 | ⟨p, hp, h2, h3⟩
      · exact .inr ⟨q, by simp, ho, by omega⟩
      · exact .inr ⟨p, List.mem_append_left _ hp, h2, by omega⟩⟩
theorem EndsOf.miss {l : List UInt8} {Q : List (List UInt8)} {j e : Nat} {q : List UInt8} (h : EndsOf l Q j e) (ho : occ l q j = false) : EndsOf l (Q ++ [q]) j e :=
  ⟨(fun p hp h1 => by
    rcases List.mem_append.1 hp with hp | hp
    · exact h.le p hp h1
    · rw [List.mem_singleton.1 hp, ho] at h1; cases h1), by
    rcases h.is with h2 | ⟨p, hp, h2, h3⟩
    · exact .inl h2
    · exact .inr ⟨p, List.mem_append_left _ hp, h2, h3⟩⟩
/-- the spans that begin at the first n numbers, where a phrase does -/
structure Rise (e : Nat → Nat) (n : Nat) (S : List (Int × Int)) : Prop where
  mem : ∀ s, s ∈ S ↔ ∃ j : Nat, j < n ∧ 0 < e j ∧ s = ((j : Int), (e j : Int))
  ord : ∀ (i j : Nat) (s t : Int × Int), S[i]? = some s → S[j]? = some t → i < j → s.1 ≤ t.1
  len : S.length ≤ n
theorem Rise.start (e : Nat → Nat) : Rise e 0 [] := ⟨fun s => ⟨fun h => (by cases h), fun ⟨j, h, _⟩ => (by omega)⟩, fun i j s t h => by simp at h, Nat.le_refl _⟩
theorem Rise.no {e : Nat → Nat} {n : Nat} {S : List (Int × Int)} (h : Rise e n S) (he : e n = 0) : Rise e (n + 1) S :=
  ⟨fun s => by
    rw [h.mem]
    constructor
    · rintro ⟨j, h1, h2⟩; exact ⟨j, by omega, h2⟩
    · rintro ⟨j, h1, h2, h3⟩
      have : j ≠ n := fun e1 => by rw [e1, he] at h2; omega
      exact ⟨j, by omega, h2, h3⟩, h.ord, by have := h.len; omega⟩
theorem Rise.yes {e : Nat → Nat} {n : Nat} {S : List (Int × Int)} (h : Rise e n S) (he : 0 < e n) : Rise e (n + 1) (S ++ [((n : Int), (e n : Int))]) :=
  ⟨fun s => by
    rw [List.mem_append, h.mem, List.mem_singleton]
    constructor
    · rintro (⟨j, h1, h2⟩ | h1)
      · exact ⟨j, by omega, h2⟩
      · exact ⟨n, by omega, he, h1⟩
    · rintro ⟨j, h1, h2, h3⟩
      by_cases e1 : j = n
      · subst e1; exact .inr h3
      · exact .inl ⟨j, by omega, h2, h3⟩, fun i j s t h1 h2 hij => by
    have hj : j < S.length + 1 := by have := (List.getElem?_eq_some_iff.1 h2).1; simpa using this
    have h1' : S[i]? = some s := by rwa [List.getElem?_append_left (by omega)] at h1
    by_cases e1 : j = S.length
    · subst e1
      rw [List.getElem?_append_right (Nat.le_refl _)] at h2
      simp at h2
      obtain ⟨m, hm, _, rfl⟩ := (h.mem s).1 (List.mem_of_getElem? h1')
      rw [← h2]
      dsimp only
      omega
    · rw [List.getElem?_append_left (by omega)] at h2
      exact h.ord i j s t h1' h2 hij, by have := h.len; simp; omega⟩
theorem rise_cov {l : List UInt8} {Q : List (List UInt8)} {e : Nat → Nat} {n : Nat} {S : List (Int × Int)} (h : Rise e n S) (hn : n = l.length) (hQ : ∀ q, q ∈ Q → 0 < q.length) (hE : ∀ j, j < n → EndsOf l Q j (e j)) (i : Int) : cov S i ↔ phC l Q i := by
  constructor
  · rintro ⟨s, hs, h1, h2⟩
    obtain ⟨j, hj, h3, rfl⟩ := (h.mem s).1 hs
    rcases (hE j hj).is with h4 | ⟨q, hq, h4, h5⟩
    · omega
    · dsimp only at h1 h2
      exact ⟨q, hq, j, h4, h1, by omega⟩
  · rintro ⟨q, hq, j, h1, h2, h3⟩
    have h4 := occ_room h1 (hQ q hq)
    have h5 := hQ q hq
    have h6 := (hE j (by omega)).le q hq h1
    exact ⟨((j : Int), (e j : Int)), (h.mem _).2 ⟨j, by omega, by omega, rfl⟩, h2, by dsimp only; omega⟩
theorem rise_ne {l : List UInt8} {Q : List (List UInt8)} {e : Nat → Nat} {n : Nat} {S : List (Int × Int)} (h : Rise e n S) (hQ : ∀ q, q ∈ Q → 0 < q.length) (hE : ∀ j, j < n → EndsOf l Q j (e j)) : ∀ s, s ∈ S → s.1 < s.2 := fun s hs => by
  obtain ⟨j, hj, h3, rfl⟩ := (h.mem s).1 hs
  rcases (hE j hj).is with h4 | ⟨q, hq, h4, h5⟩
  · omega
  · have := hQ q hq; dsimp only; omega
end WM
