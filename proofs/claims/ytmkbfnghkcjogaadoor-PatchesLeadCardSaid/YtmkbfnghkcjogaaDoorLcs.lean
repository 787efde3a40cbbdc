/- Plain mathematics: what can be kept of two lists; which of it is kept first. -/
import Derived.Lib.Hide
namespace WM
def lrow (x : ByteArray) (r : List ByteArray → Nat) : List ByteArray → Nat
  | [] => 0
  | y :: b => if x = y then 1 + r b else max (r (y :: b)) (lrow x r b)
/-- how many can be kept of two lists -/
def lcs : List ByteArray → List ByteArray → Nat
  | [] => fun _ => 0
  | x :: a => lrow x (lcs a)
theorem lcs_nil (b : List ByteArray) : lcs [] b = 0 := rfl
theorem lcs_nil' : ∀ a : List ByteArray, lcs a [] = 0
  | [] => rfl
  | _ :: _ => rfl
theorem lcs_cons (x y : ByteArray) (a b : List ByteArray) : lcs (x :: a) (y :: b) = if x = y then 1 + lcs a b else max (lcs a (y :: b)) (lcs (x :: a) b) := rfl
theorem lcs_steps : ∀ (n : Nat) (a b : List ByteArray), a.length + b.length ≤ n → (∀ y, lcs a b ≤ lcs a (y :: b) ∧ lcs a (y :: b) ≤ 1 + lcs a b) ∧ (∀ x, lcs a b ≤ lcs (x :: a) b ∧ lcs (x :: a) b ≤ 1 + lcs a b) := by
  intro n
  induction n with
  | zero =>
    intro a b h
    have ha : a = [] := List.eq_nil_of_length_eq_zero (by omega)
    have hb : b = [] := List.eq_nil_of_length_eq_zero (by omega)
    subst ha; subst hb
    refine ⟨fun y => ⟨Nat.le_refl _, Nat.zero_le _⟩, fun x => ⟨Nat.le_refl _, Nat.zero_le _⟩⟩
  | succ n ih =>
    intro a b h
    refine ⟨fun y => ?_, fun x => ?_⟩
    · cases a with
      | nil => exact ⟨Nat.le_refl _, Nat.zero_le _⟩
      | cons x a =>
        simp only [List.length_cons] at h
        obtain ⟨c, r⟩ := ih a b (by omega)
        have c1 := c y
        have r1 := r x
        rw [lcs_cons]
        split <;> omega
    · cases b with
      | nil => rw [lcs_nil', lcs_nil']; omega
      | cons y b =>
        simp only [List.length_cons] at h
        obtain ⟨c, r⟩ := ih a b (by omega)
        have c1 := c y
        have r1 := r x
        rw [lcs_cons]
        split <;> omega
theorem lcs_le : ∀ a b : List ByteArray, lcs a b ≤ a.length
  | [], _ => Nat.zero_le _
  | x :: a, b => by
    have h1 := lcs_le a b
    have h2 := ((lcs_steps _ a b (Nat.le_refl _)).2 x).2
    simp only [List.length_cons]
    omega
/-- what can be kept from i and j on -/
def tb (A B : List ByteArray) (i j : Nat) : Nat := lcs (A.drop i) (B.drop j)
theorem tb_le (A B : List ByteArray) (i j : Nat) : tb A B i j ≤ A.length := by
  have := lcs_le (A.drop i) (B.drop j)
  rw [List.length_drop] at this
  unfold tb; omega
theorem tb_end1 (A B : List ByteArray) (j : Nat) : tb A B A.length j = 0 := by unfold tb; rw [List.drop_length]; rfl
theorem tb_end2 (A B : List ByteArray) (i : Nat) : tb A B i B.length = 0 := by unfold tb; rw [List.drop_length]; exact lcs_nil' _
theorem drop_cons {A : List ByteArray} {i : Nat} {x : ByteArray} (h : A[i]? = some x) : A.drop i = x :: A.drop (i + 1) := by
  obtain ⟨hi, rfl⟩ := List.getElem?_eq_some_iff.1 h
  exact List.drop_eq_getElem_cons hi
theorem tb_eq {A B : List ByteArray} {i j : Nat} {x y : ByteArray} (hx : A[i]? = some x) (hy : B[j]? = some y) (h : x = y) : tb A B i j = 1 + tb A B (i + 1) (j + 1) := by
  unfold tb; rw [drop_cons hx, drop_cons hy, lcs_cons, if_pos h]
theorem tb_ne {A B : List ByteArray} {i j : Nat} {x y : ByteArray} (hx : A[i]? = some x) (hy : B[j]? = some y) (h : x ≠ y) : tb A B i j = max (tb A B (i + 1) j) (tb A B i (j + 1)) := by
  unfold tb; rw [drop_cons hx, drop_cons hy, lcs_cons, if_neg h, ← drop_cons hx, ← drop_cons hy]
theorem tb_col {A B : List ByteArray} {i j : Nat} {y : ByteArray} (hy : B[j]? = some y) : tb A B i (j + 1) ≤ tb A B i j ∧ tb A B i j ≤ 1 + tb A B i (j + 1) := by
  unfold tb; rw [drop_cons hy]
  exact (lcs_steps _ _ _ (Nat.le_refl _)).1 y
theorem tb_row {A B : List ByteArray} {i j : Nat} {x : ByteArray} (hx : A[i]? = some x) : tb A B (i + 1) j ≤ tb A B i j ∧ tb A B i j ≤ 1 + tb A B (i + 1) j := by
  unfold tb; rw [drop_cons hx]
  exact (lcs_steps _ _ _ (Nat.le_refl _)).2 x
/-- the reference's way to the same number -/
theorem tb_eq' {A B : List ByteArray} {i j : Nat} {x y : ByteArray} (hx : A[i]? = some x) (hy : B[j]? = some y) (h : x = y) : tb A B i j = max (max (tb A B (i + 1) j) (tb A B i (j + 1))) (tb A B (i + 1) (j + 1) + 1) := by
  have h1 := tb_eq hx hy h
  have h2 := (tb_col (A := A) (i := i + 1) hy).2
  have h3 := (tb_row (B := B) (j := j + 1) hx).2
  omega
theorem tb_mono (A B : List ByteArray) (i j : Nat) : ∀ d, tb A B i (j + d) ≤ tb A B i j
  | 0 => Nat.le_refl _
  | d + 1 => by
    have ih := tb_mono A B i j d
    by_cases h : j + d < B.length
    · have := (tb_col (A := A) (i := i) (List.getElem?_eq_getElem h)).1
      rw [← Nat.add_assoc]; omega
    · have e : tb A B i (j + (d + 1)) = 0 := by
        unfold tb; rw [show B.drop (j + (d + 1)) = [] from List.drop_eq_nil_of_le (by omega)]; exact lcs_nil' _
      omega
/-- (i, k) is kept at the state (i, j): the tokens are equal, and nothing is lost -/
def Fit (A B : List ByteArray) (i j k : Nat) : Prop := ∃ x, A[i]? = some x ∧ B[k]? = some x ∧ tb A B (i + 1) (k + 1) + 1 = tb A B i j
theorem fit_first {A B : List ByteArray} {i j k k0 : Nat} {x : ByteArray} (hx : A[i]? = some x) (hj : j ≤ k0) (hk : k0 ≤ k) (h0 : B[k0]? = some x) (hf : Fit A B i j k) : Fit A B i j k0 := by
  obtain ⟨x', h1, h2, h3⟩ := hf
  have e : x' = x := by rw [hx] at h1; injection h1 with h1; exact h1.symm
  subst e
  refine ⟨x', hx, h0, ?_⟩
  have h4 := tb_mono A B (i + 1) (k0 + 1) (k - k0)
  have h5 := tb_eq hx h0 rfl
  have h6 := tb_mono A B i j (k0 - j)
  rw [show k0 + 1 + (k - k0) = k + 1 by omega] at h4
  rw [show j + (k0 - j) = k0 by omega] at h6
  omega
/-- the first token of l that is x -/
def firstOf (x : ByteArray) : List ByteArray → Option Nat
  | [] => none
  | y :: l => if y = x then some 0 else (firstOf x l).map (· + 1)
theorem firstOf_some {x : ByteArray} : ∀ {l : List ByteArray} {n : Nat}, firstOf x l = some n → l[n]? = some x ∧ ∀ k : Nat, k < n → l[k]? ≠ some x
  | [], n, h => by simp [firstOf] at h
  | y :: l, n, h => by
    unfold firstOf at h
    split at h
    · rename_i e
      injection h with h
      subst h
      exact ⟨by simp [e], fun k hk => by omega⟩
    · rename_i e
      obtain ⟨m, hm, rfl⟩ := Option.map_eq_some_iff.1 h
      obtain ⟨h1, h2⟩ := firstOf_some hm
      refine ⟨by simpa using h1, fun k hk => ?_⟩
      cases k with
      | zero => simpa using e
      | succ k => simpa using h2 k (by omega)
theorem firstOf_none {x : ByteArray} : ∀ {l : List ByteArray}, firstOf x l = none → ∀ k : Nat, l[k]? ≠ some x
  | [], _, k => by simp
  | y :: l, h, k => by
    unfold firstOf at h
    split at h
    · cases h
    · rename_i e
      cases k with
      | zero => simpa using e
      | succ k => simpa using firstOf_none (Option.map_eq_none_iff.1 h) k
theorem firstOf_lt {x : ByteArray} {l : List ByteArray} {n : Nat} (h : firstOf x l = some n) : n < l.length := (List.getElem?_eq_some_iff.1 (firstOf_some h).1).1
open Classical in
/-- one token more -/
noncomputable def nextK (A B : List ByteArray) (i : Nat) (s : List (Nat × Nat) × Nat) : List (Nat × Nat) × Nat :=
  if h : ∃ k, s.2 ≤ k ∧ Fit A B i s.2 k ∧ ∀ q, s.2 ≤ q → q < k → B[q]? ≠ A[i]? then (s.1 ++ [(i, h.choose)], h.choose + 1) else s
/-- the pairs that are kept of the first i tokens, and where the second list goes on -/
noncomputable def kpK (A B : List ByteArray) : Nat → List (Nat × Nat) × Nat
  | 0 => ([], 0)
  | i + 1 => nextK A B i (kpK A B i)
theorem kp_hit {A B : List ByteArray} {i k : Nat} {l : List (Nat × Nat)} {j : Nat} (hs : kpK A B i = (l, j)) (hj : j ≤ k) (hf : Fit A B i j k) (hq : ∀ q, j ≤ q → q < k → B[q]? ≠ A[i]?) : kpK A B (i + 1) = (l ++ [(i, k)], k + 1) := by
  show nextK A B i (kpK A B i) = _
  rw [hs]
  have h : ∃ k, j ≤ k ∧ Fit A B i j k ∧ ∀ q, j ≤ q → q < k → B[q]? ≠ A[i]? := ⟨k, hj, hf, hq⟩
  have e : h.choose = k := by
    obtain ⟨h1, h2, h3⟩ := h.choose_spec
    generalize h.choose = c at h1 h2 h3 ⊢
    obtain ⟨x, a1, a2, _⟩ := hf
    obtain ⟨y, b1, b2, _⟩ := h2
    rcases Nat.lt_trichotomy c k with g | g | g
    · exact absurd (b2.trans b1.symm) (hq _ h1 g)
    · exact g
    · exact absurd (a2.trans a1.symm) (h3 _ hj g)
  unfold nextK
  rw [dif_pos h, e]
theorem kp_miss {A B : List ByteArray} {i : Nat} {l : List (Nat × Nat)} {j : Nat} (hs : kpK A B i = (l, j)) (hq : ∀ k, j ≤ k → ¬ (Fit A B i j k ∧ ∀ q, j ≤ q → q < k → B[q]? ≠ A[i]?)) : kpK A B (i + 1) = (l, j) := by
  show nextK A B i (kpK A B i) = _
  rw [hs]
  unfold nextK
  rw [dif_neg]
  rintro ⟨k, h1, h2⟩
  exact hq k h1 h2
/-- the reference's search: the first that fits -/
theorem kp_hit' {A B : List ByteArray} {i k : Nat} {l : List (Nat × Nat)} {j : Nat} (hs : kpK A B i = (l, j)) (hj : j ≤ k) (hf : Fit A B i j k) (hq : ∀ q, j ≤ q → q < k → ¬ Fit A B i j q) : kpK A B (i + 1) = (l ++ [(i, k)], k + 1) := by
  refine kp_hit hs hj hf fun q h1 h2 he => hq q h1 h2 ?_
  obtain ⟨x, a1, a2, _⟩ := id hf
  exact fit_first a1 h1 (by omega) (he.trans a1) hf
/-- the program's search: the first equal token -/
theorem kp_none {A B : List ByteArray} {i : Nat} {x : ByteArray} {l : List (Nat × Nat)} {j : Nat} (hs : kpK A B i = (l, j)) (hx : A[i]? = some x) (hn : firstOf x (B.drop j) = none) : kpK A B (i + 1) = (l, j) := by
  refine kp_miss hs fun k hk hf => ?_
  obtain ⟨y, b1, b2, _⟩ := hf.1
  have := firstOf_none hn (k - j)
  rw [List.getElem?_drop, show j + (k - j) = k by omega] at this
  exact this (b2.trans (b1.symm.trans hx))
theorem kp_some {A B : List ByteArray} {i s : Nat} {x : ByteArray} {l : List (Nat × Nat)} {j : Nat} (hs : kpK A B i = (l, j)) (hx : A[i]? = some x) (hn : firstOf x (B.drop j) = some s) (h : tb A B i j = 1 + tb A B (i + 1) (j + s + 1)) : kpK A B (i + 1) = (l ++ [(i, j + s)], j + s + 1) := by
  obtain ⟨h1, h2⟩ := firstOf_some hn
  rw [List.getElem?_drop] at h1
  refine kp_hit hs (by omega) ⟨x, hx, h1, by omega⟩ fun q g1 g2 => ?_
  have := h2 (q - j) (by omega)
  rw [List.getElem?_drop, show j + (q - j) = q by omega] at this
  rw [hx]; exact this
theorem kp_less {A B : List ByteArray} {i s : Nat} {x : ByteArray} {l : List (Nat × Nat)} {j : Nat} (hs : kpK A B i = (l, j)) (hx : A[i]? = some x) (hn : firstOf x (B.drop j) = some s) (h : tb A B i j ≠ 1 + tb A B (i + 1) (j + s + 1)) : kpK A B (i + 1) = (l, j) := by
  obtain ⟨h1, h2⟩ := firstOf_some hn
  rw [List.getElem?_drop] at h1
  refine kp_miss hs fun k hk hf => ?_
  obtain ⟨y, b1, b2, b3⟩ := hf.1
  have e : k = j + s := by
    rcases Nat.lt_trichotomy k (j + s) with g | g | g
    · have := h2 (k - j) (by omega)
      rw [List.getElem?_drop, show j + (k - j) = k by omega] at this
      exact absurd (b2.trans (b1.symm.trans hx)) this
    · exact g
    · exact absurd (h1.trans hx.symm) (hf.2 (j + s) (by omega) g)
  subst e
  omega
/-- no token fits -/
theorem kp_off {A B : List ByteArray} {i : Nat} {l : List (Nat × Nat)} {j : Nat} (hs : kpK A B i = (l, j)) (hq : ∀ q, j ≤ q → q < B.length → ¬ Fit A B i j q) : kpK A B (i + 1) = (l, j) := by
  refine kp_miss hs fun k hk hf => ?_
  obtain ⟨y, b1, b2, _⟩ := id hf.1
  exact hq k hk (List.getElem?_eq_some_iff.1 b2).1 hf.1
noncomputable def kept (A B : List ByteArray) : List (Nat × Nat) := (kpK A B A.length).1
/-- where pair n begins: behind the one before -/
def fI (l : List (Nat × Nat)) : Nat → Nat
  | 0 => 0
  | n + 1 => (l.getD n (0, 0)).1 + 1
def fJ (l : List (Nat × Nat)) : Nat → Nat
  | 0 => 0
  | n + 1 => (l.getD n (0, 0)).2 + 1
/-- pairs that rise, the last before (i, j) -/
def Rise (l : List (Nat × Nat)) (i j : Nat) : Prop := (∀ n x, l[n]? = some x → fI l n ≤ x.1 ∧ fJ l n ≤ x.2) ∧ fI l l.length ≤ i ∧ fJ l l.length ≤ j
theorem fI_app (l : List (Nat × Nat)) (x : Nat × Nat) (n : Nat) (h : n ≤ l.length) : fI (l ++ [x]) n = fI l n := by
  cases n with
  | zero => rfl
  | succ n => simp only [fI, List.getD_eq_getElem?_getD]; rw [List.getElem?_append_left (by omega)]
theorem fJ_app (l : List (Nat × Nat)) (x : Nat × Nat) (n : Nat) (h : n ≤ l.length) : fJ (l ++ [x]) n = fJ l n := by
  cases n with
  | zero => rfl
  | succ n => simp only [fJ, List.getD_eq_getElem?_getD]; rw [List.getElem?_append_left (by omega)]
theorem fI_end (l : List (Nat × Nat)) (x : Nat × Nat) : fI (l ++ [x]) (l ++ [x]).length = x.1 + 1 := by simp [fI]
theorem fJ_end (l : List (Nat × Nat)) (x : Nat × Nat) : fJ (l ++ [x]) (l ++ [x]).length = x.2 + 1 := by simp [fJ]
theorem Rise.snoc {l : List (Nat × Nat)} {i j p q i' j' : Nat} (h : Rise l i j) (hp : i ≤ p) (hq : j ≤ q) (hi : p + 1 ≤ i') (hj : q + 1 ≤ j') : Rise (l ++ [(p, q)]) i' j' := by
  obtain ⟨h1, h2, h3⟩ := h
  refine ⟨fun n x hx => ?_, by rw [fI_end]; exact hi, by rw [fJ_end]; exact hj⟩
  have hn : n < (l ++ [(p, q)]).length := (List.getElem?_eq_some_iff.1 hx).1
  simp at hn
  rw [fI_app _ _ _ (by omega), fJ_app _ _ _ (by omega)]
  by_cases e : n < l.length
  · rw [List.getElem?_append_left e] at hx
    exact h1 n x hx
  · obtain rfl : n = l.length := by omega
    simp at hx
    subst hx
    exact ⟨by simp only; omega, by simp only; omega⟩
theorem kp_rise (A B : List ByteArray) : ∀ i, i ≤ A.length → Rise (kpK A B i).1 i (kpK A B i).2 ∧ (kpK A B i).2 ≤ B.length
  | 0, _ => ⟨⟨fun n x h => by simp [kpK] at h, Nat.le_refl _, Nat.le_refl _⟩, Nat.zero_le _⟩
  | i + 1, hi => by
    obtain ⟨ih, hb⟩ := kp_rise A B i (by omega)
    rcases Classical.em (∃ k, (kpK A B i).2 ≤ k ∧ Fit A B i (kpK A B i).2 k ∧ ∀ q, (kpK A B i).2 ≤ q → q < k → B[q]? ≠ A[i]?) with ⟨k, h1, h2, h3⟩ | h
    · rw [kp_hit (i := i) rfl h1 h2 h3]
      obtain ⟨x, _, b2, _⟩ := h2
      have := (List.getElem?_eq_some_iff.1 b2).1
      exact ⟨ih.snoc (Nat.le_refl _) h1 (Nat.le_refl _) (Nat.le_refl _), this⟩
    · rw [kp_miss (i := i) rfl (fun k hk hf => h ⟨k, hk, hf⟩)]
      exact ⟨⟨ih.1, Nat.le_succ_of_le ih.2.1, ih.2.2⟩, hb⟩
/-- the pairs, and the ends -/
noncomputable def ends (A B : List ByteArray) : List (Nat × Nat) := kept A B ++ [(A.length, B.length)]
theorem ends_rise (A B : List ByteArray) : Rise (ends A B) (A.length + 1) (B.length + 1) := by
  obtain ⟨h1, h2⟩ := kp_rise A B A.length (Nat.le_refl _)
  exact h1.snoc (Nat.le_refl _) h2 (Nat.le_refl _) (Nat.le_refl _)
theorem rise_le {l : List (Nat × Nat)} {i j : Nat} (h : Rise l i j) : ∀ (d n : Nat), n + d = l.length → fI l n ≤ i ∧ fJ l n ≤ j
  | 0, n, e => by obtain rfl : n = l.length := by omega
                  exact h.2
  | d + 1, n, e => by
    obtain ⟨h1, h2⟩ := rise_le h d (n + 1) (by omega)
    obtain ⟨x, hx⟩ : ∃ x, l[n]? = some x := ⟨_, List.getElem?_eq_getElem (show n < l.length by omega)⟩
    have := h.1 n x hx
    have e1 : fI l (n + 1) = x.1 + 1 := by simp [fI, hx]
    have e2 : fJ l (n + 1) = x.2 + 1 := by simp [fJ, hx]
    omega
theorem kept_len (A B : List ByteArray) : (kept A B).length ≤ A.length := by
  suffices ∀ i, i ≤ A.length → (kpK A B i).1.length ≤ i from this _ (Nat.le_refl _)
  intro i
  induction i with
  | zero => intro _; simp [kpK]
  | succ i ih =>
    intro hi
    have := ih (by omega)
    rcases Classical.em (∃ k, (kpK A B i).2 ≤ k ∧ Fit A B i (kpK A B i).2 k ∧ ∀ q, (kpK A B i).2 ≤ q → q < k → B[q]? ≠ A[i]?) with ⟨k, h1, h2, h3⟩ | h
    · rw [kp_hit (i := i) rfl h1 h2 h3]; simp; omega
    · rw [kp_miss (i := i) rfl (fun k hk hf => h ⟨k, hk, hf⟩)]; exact Nat.le_succ_of_le this
end WM
