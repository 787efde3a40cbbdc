/- Forests as lists of parents: steps up, circles, chains. Plain mathematics. -/
import Derived.KernelRfl
namespace Go.Proofs.YthhfbcddjnjllaaGreatDoor.FM
theorem pigeon : ∀ (n : Nat) (l : List Nat), l.Nodup → (∀ x ∈ l, x < n) → l.length ≤ n := by
  intro n
  induction n with
  | zero =>
    intro l _ h
    cases l with
    | nil => simp
    | cons a l => exact absurd (h a (by simp)) (by omega)
  | succ n ih =>
    intro l hd h
    have h1 := ih (l.erase n) (hd.erase n) (fun x hx => by
      have := (List.Nodup.mem_erase_iff hd).1 hx
      have := h x this.2
      omega)
    have : l.length ≤ (l.erase n).length + 1 := by
      rw [List.length_erase]; split <;> omega
    omega
/-- the parent of i -/
def nx (U : List (Option Nat)) (i : Nat) : Option Nat := (U[i]?).getD none
def up (U : List (Option Nat)) : Nat → Nat → Option Nat
  | 0, i => some i
  | k + 1, i => (up U k i).bind (nx U)
def good (U : List (Option Nat)) : Prop := ∀ i p, nx U i = some p → p < U.length
def oi : Option Nat → Int
  | none => -1
  | some k => k
theorem nx_lt {U : List (Option Nat)} {i p : Nat} (h : nx U i = some p) : i < U.length := by
  unfold nx at h
  rcases Nat.lt_or_ge i U.length with h1 | h1
  · exact h1
  · rw [List.getElem?_eq_none h1] at h; cases h
theorem up_succ (U : List (Option Nat)) (k i : Nat) : up U (k + 1) i = (up U k i).bind (nx U) := rfl
theorem up_add (U : List (Option Nat)) (a b i : Nat) : up U (a + b) i = (up U a i).bind (up U b) := by
  induction b with
  | zero => cases h : up U a i <;> simp [up]
  | succ b ih =>
    show (up U (a + b) i).bind (nx U) = _
    rw [ih]
    cases up U a i <;> rfl
theorem up_head (U : List (Option Nat)) (k i : Nat) : up U (k + 1) i = (nx U i).bind (up U k) := by
  rw [Nat.add_comm, up_add]; rfl
theorem up_none {U : List (Option Nat)} {a i : Nat} (h : up U a i = none) (b : Nat) (hb : a ≤ b) : up U b i = none := by
  obtain ⟨c, rfl⟩ := Nat.exists_eq_add_of_le hb
  rw [up_add, h]; rfl
theorem up_lt {U : List (Option Nat)} (hU : good U) {k i x : Nat} (hi : i < U.length) (h : up U k i = some x) : x < U.length := by
  cases k with
  | zero => injection h with h; omega
  | succ k =>
    rw [up_succ] at h
    cases h1 : up U k i with
    | none => rw [h1] at h; cases h
    | some y => rw [h1] at h; exact hU y x h
theorem up_round {U : List (Option Nat)} {k i : Nat} (h : up U k i = some i) (m : Nat) : up U (m * k) i = some i := by
  induction m with
  | zero => simp [up]
  | succ m ih => rw [Nat.succ_mul, up_add, ih]; exact h
/-- i comes to an end -/
def ends (U : List (Option Nat)) (i : Nat) : Prop := ∃ k, up U k i = none
theorem ends_not_round {U : List (Option Nat)} {k i : Nat} (h : ends U i) (hk : 1 ≤ k) : up U k i ≠ some i := by
  intro h1
  obtain ⟨m, hm⟩ := h
  have := up_none hm (m * k) (Nat.le_mul_of_pos_right m hk)
  rw [up_round h1] at this
  cases this
theorem ends_of_up {U : List (Option Nat)} {k i x : Nat} (h : up U k i = some x) (hx : ends U x) : ends U i := by
  obtain ⟨m, hm⟩ := hx
  exact ⟨k + m, by rw [up_add, h]; exact hm⟩
theorem ends_up {U : List (Option Nat)} {k i x : Nat} (h : up U k i = some x) (hi : ends U i) : ends U x := by
  obtain ⟨m, hm⟩ := hi
  refine ⟨m, ?_⟩
  have := up_none hm (k + m) (by omega)
  rw [up_add, h] at this
  exact this
/-- the numbers above i, the nearest first: at most f -/
def chain (U : List (Option Nat)) : Nat → Nat → List Nat
  | 0, _ => []
  | f + 1, i => match nx U i with
    | none => []
    | some p => p :: chain U f p
theorem chain_len (U : List (Option Nat)) : ∀ f i, (chain U f i).length ≤ f := by
  intro f
  induction f with
  | zero => intro i; simp [chain]
  | succ f ih =>
    intro i
    unfold chain
    cases nx U i with
    | none => simp
    | some p => simp; exact ih p
theorem mem_chain (U : List (Option Nat)) : ∀ f i x, x ∈ chain U f i ↔ ∃ k, 1 ≤ k ∧ k ≤ f ∧ up U k i = some x := by
  intro f
  induction f with
  | zero => intro i x; constructor
            · intro h; cases h
            · rintro ⟨k, h1, h2, _⟩; omega
  | succ f ih =>
    intro i x
    unfold chain
    cases hp : nx U i with
    | none =>
      constructor
      · intro h; cases h
      · rintro ⟨k, h1, h2, h3⟩
        obtain ⟨k, rfl⟩ : ∃ j, k = j + 1 := ⟨k - 1, by omega⟩
        rw [up_head, hp] at h3; cases h3
    | some p =>
      constructor
      · intro h
        rcases List.mem_cons.1 h with rfl | h
        · exact ⟨1, by omega, by omega, by rw [up_head, hp]; rfl⟩
        · obtain ⟨k, h1, h2, h3⟩ := (ih p x).1 h
          exact ⟨k + 1, by omega, by omega, by rw [up_head, hp]; exact h3⟩
      · rintro ⟨k, h1, h2, h3⟩
        obtain ⟨k, rfl⟩ : ∃ j, k = j + 1 := ⟨k - 1, by omega⟩
        rw [up_head, hp] at h3
        change up U k p = some x at h3
        cases k with
        | zero => injection h3 with h3; subst h3; exact List.mem_cons_self
        | succ k => exact List.mem_cons_of_mem _ ((ih p x).2 ⟨k + 1, by omega, by omega, h3⟩)
theorem chain_get (U : List (Option Nat)) : ∀ f i k, k < f → (chain U f i)[k]? = up U (k + 1) i := by
  intro f
  induction f with
  | zero => intro i k h; omega
  | succ f ih =>
    intro i k hk
    unfold chain
    cases hp : nx U i with
    | none => rw [up_head, hp]; rfl
    | some p =>
      rw [up_head, hp]
      cases k with
      | zero => rfl
      | succ k => rw [List.getElem?_cons_succ, ih p k (by omega)]; rfl
/-- some numbers lie above themselves -/
def cyc (U : List (Option Nat)) : Prop := ∃ i, i < U.length ∧ i ∈ chain U (U.length + 1) i
theorem cyc_of {U : List (Option Nat)} {a b i x : Nat} (hU : good U) (hi : i < U.length) (hab : a < b) (hb : b ≤ U.length) (h1 : up U a i = some x) (h2 : up U b i = some x) : cyc U := by
  refine ⟨x, up_lt hU hi h1, (mem_chain U _ _ _).2 ⟨b - a, by omega, by omega, ?_⟩⟩
  have := up_add U a (b - a) i
  rw [show a + (b - a) = b from by omega, h1, h2] at this
  exact this.symm
theorem not_cyc_of {U : List (Option Nat)} (h : ∀ i, i < U.length → ends U i) : ¬ cyc U := by
  rintro ⟨i, hi, hm⟩
  obtain ⟨k, h1, _, h3⟩ := (mem_chain U _ _ _).1 hm
  exact ends_not_round (h i hi) h1 h3
theorem least {P : Nat → Prop} [DecidablePred P] : ∀ n, P n → ∃ m, P m ∧ ∀ k, k < m → ¬ P k := by
  intro n
  induction n using Nat.strongRecOn with
  | ind n ih =>
    intro h
    by_cases hk : ∃ k, k < n ∧ P k
    · obtain ⟨k, h1, h2⟩ := hk
      exact ih k h1 h2
    · exact ⟨n, h, fun k h1 h2 => hk ⟨k, h1, h2⟩⟩
/-- the chain of a number that comes to an end is whole -/
theorem chain_whole {U : List (Option Nat)} (hU : good U) {i : Nat} (hi : i < U.length) (h : ends U i) :
    (chain U (U.length + 1) i).length < U.length ∧ up U ((chain U (U.length + 1) i).length + 1) i = none ∧ ∀ k, k ≤ (chain U (U.length + 1) i).length → ∃ x, up U k i = some x ∧ x < U.length := by
  obtain ⟨m, hm⟩ := h
  obtain ⟨d, hd, hmin⟩ := least (P := fun k => up U k i = none) m hm
  have hd0 : 1 ≤ d := by
    rcases Nat.eq_zero_or_pos d with rfl | h
    · cases hd
    · exact h
  have hsome : ∀ k, k < d → ∃ x, up U k i = some x := fun k hk => Option.ne_none_iff_exists'.1 (hmin k hk)
  have hdl : d ≤ U.length := by
    have hn : ((List.range d).map fun k => ((up U k i).getD 0)).Nodup := by
      rw [List.nodup_iff_pairwise_ne, List.pairwise_iff_getElem]
      intro a b ha hb hab e
      simp at ha hb
      simp at e
      obtain ⟨x, hx⟩ := hsome a (by omega)
      obtain ⟨y, hy⟩ := hsome b hb
      rw [hx, hy] at e
      change x = y at e
      subst e
      have h1 := up_add U a (d - b) i
      have h2 := up_add U b (d - b) i
      rw [show b + (d - b) = d from by omega, hy, hd] at h2
      rw [hx] at h1
      exact hmin _ (by omega) (h1.trans h2.symm)
    have := pigeon U.length _ hn (by
      intro x hx
      obtain ⟨k, hk, rfl⟩ := List.mem_map.1 hx
      obtain ⟨y, hy⟩ := hsome k (List.mem_range.1 hk)
      rw [hy]
      exact up_lt hU hi hy)
    simpa using this
  have hlen : (chain U (U.length + 1) i).length = d - 1 := by
    have h1 : ¬ d - 1 < (chain U (U.length + 1) i).length := by
      intro h
      have := chain_get U (U.length + 1) i (d - 1) (by omega)
      rw [show d - 1 + 1 = d from by omega, hd, List.getElem?_eq_getElem h] at this
      cases this
    have h2 : ¬ (chain U (U.length + 1) i).length < d - 1 := by
      intro h
      have := chain_get U (U.length + 1) i (chain U (U.length + 1) i).length (by omega)
      rw [List.getElem?_eq_none (Nat.le_refl _)] at this
      exact hmin _ (by omega) this.symm
    omega
  rw [hlen]
  refine ⟨by omega, by rw [show d - 1 + 1 = d from by omega]; exact hd, fun k hk => ?_⟩
  obtain ⟨x, hx⟩ := hsome k (by omega)
  exact ⟨x, hx, up_lt hU hi hx⟩
end Go.Proofs.YthhfbcddjnjllaaGreatDoor.FM
