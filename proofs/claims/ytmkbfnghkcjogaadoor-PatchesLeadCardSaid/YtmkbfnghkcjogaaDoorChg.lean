/- Plain mathematics: the changes between two lists; what is made of them. -/
import Derived.Test.YtmkbfnghkcjogaaDoorLcs
import Derived.Test.YtmkbfnghkcjogaaDoorJoinM
namespace WM
structure Chg where
  at_ : Nat
  drop : List ByteArray
  add : List ByteArray
/-- the changes before the first n of the pairs -/
def chgK (A B : List ByteArray) (l : List (Nat × Nat)) : Nat → List Chg
  | 0 => []
  | n + 1 => chgK A B l n ++ (if fI l n < (l.getD n (0, 0)).1 ∨ fJ l n < (l.getD n (0, 0)).2 then [⟨fI l n, (A.drop (fI l n)).take ((l.getD n (0, 0)).1 - fI l n), (B.drop (fJ l n)).take ((l.getD n (0, 0)).2 - fJ l n)⟩] else [])
noncomputable def differ (A B : List ByteArray) : List Chg := chgK A B (ends A B) (ends A B).length
theorem chg_yes {A B : List ByteArray} {l : List (Nat × Nat)} {n : Nat} {x : Nat × Nat} (hx : l[n]? = some x) (h : fI l n < x.1 ∨ fJ l n < x.2) : chgK A B l (n + 1) = chgK A B l n ++ [⟨fI l n, (A.drop (fI l n)).take (x.1 - fI l n), (B.drop (fJ l n)).take (x.2 - fJ l n)⟩] := by
  have e : l.getD n (0, 0) = x := by simp [hx]
  simp only [chgK, e]
  rw [if_pos h]
theorem chg_no {A B : List ByteArray} {l : List (Nat × Nat)} {n : Nat} {x : Nat × Nat} (hx : l[n]? = some x) (h : ¬ (fI l n < x.1 ∨ fJ l n < x.2)) : chgK A B l (n + 1) = chgK A B l n := by
  have e : l.getD n (0, 0) = x := by simp [hx]
  simp only [chgK, e]
  rw [if_neg h, List.append_nil]
theorem chg_len (A B : List ByteArray) (l : List (Nat × Nat)) : ∀ n, (chgK A B l n).length ≤ n
  | 0 => Nat.le_refl _
  | n + 1 => by
    have ih := chg_len A B l n
    simp only [chgK, List.length_append]
    split <;> simp <;> omega
/-- where change n begins to copy: behind the one before -/
def aft (D : List Chg) : Nat → Nat
  | 0 => 0
  | n + 1 => (D[n]?.map fun c => c.at_ + c.drop.length).getD 0
/-- changes that follow one another, and end before e -/
def Fol (D : List Chg) (e : Nat) : Prop := (∀ n c, D[n]? = some c → aft D n ≤ c.at_) ∧ aft D D.length ≤ e
theorem aft_app (D : List Chg) (c : Chg) (n : Nat) (h : n ≤ D.length) : aft (D ++ [c]) n = aft D n := by
  cases n with
  | zero => rfl
  | succ n => simp only [aft]; rw [List.getElem?_append_left (by omega)]
theorem Fol.snoc {D : List Chg} {e e' : Nat} {c : Chg} (h : Fol D e) (h1 : e ≤ c.at_) (h2 : c.at_ + c.drop.length ≤ e') : Fol (D ++ [c]) e' := by
  refine ⟨fun n x hx => ?_, by simp [aft]; exact h2⟩
  have hn : n < (D ++ [c]).length := (List.getElem?_eq_some_iff.1 hx).1
  simp at hn
  rw [aft_app _ _ _ (by omega)]
  by_cases g : n < D.length
  · rw [List.getElem?_append_left g] at hx
    exact h.1 n x hx
  · obtain rfl : n = D.length := by omega
    simp at hx
    subst hx
    exact Nat.le_trans h.2 h1
theorem chg_fol {A B : List ByteArray} {l : List (Nat × Nat)} {i j : Nat} (hr : Rise l i j) (hA : ∀ (n : Nat) (x : Nat × Nat), l[n]? = some x → x.1 ≤ A.length) : ∀ n, n ≤ l.length → Fol (chgK A B l n) (fI l n)
  | 0, _ => ⟨fun n c h => by simp [chgK] at h, Nat.le_refl _⟩
  | n + 1, hn => by
    have ih := chg_fol (B := B) hr hA n (by omega)
    obtain ⟨x, hx⟩ : ∃ x, l[n]? = some x := ⟨_, List.getElem?_eq_getElem (show n < l.length by omega)⟩
    have h1 := (hr.1 n x hx).1
    have h2 := hA n x hx
    have e : fI l (n + 1) = x.1 + 1 := by simp [fI, hx]
    by_cases h : fI l n < x.1 ∨ fJ l n < x.2
    · rw [chg_yes hx h, e]
      refine ih.snoc (Nat.le_refl _) ?_
      simp only [List.length_take, List.length_drop]
      omega
    · rw [chg_no hx h, e]
      exact ⟨ih.1, by have := ih.2; omega⟩
theorem ends_le (A B : List ByteArray) (n : Nat) (x : Nat × Nat) (hx : (ends A B)[n]? = some x) : x.1 ≤ A.length ∧ x.2 ≤ B.length := by
  have hr := ends_rise A B
  have hn : n < (ends A B).length := (List.getElem?_eq_some_iff.1 hx).1
  have h := rise_le hr ((ends A B).length - (n + 1)) (n + 1) (by omega)
  have e1 : fI (ends A B) (n + 1) = x.1 + 1 := by simp [fI, hx]
  have e2 : fJ (ends A B) (n + 1) = x.2 + 1 := by simp [fJ, hx]
  omega
theorem ends_len (A B : List ByteArray) : (ends A B).length ≤ A.length + 1 := by
  have := kept_len A B
  simp [ends]; omega
theorem differ_fol (A B : List ByteArray) : Fol (differ A B) A.length := by
  have h := chg_fol (A := A) (B := B) (ends_rise A B) (fun n x hx => (ends_le A B n x hx).1) (ends A B).length (Nat.le_refl _)
  refine ⟨h.1, ?_⟩
  -- the last pair is the ends: what is behind it is one past the end; a change ends at its pair
  have hl : (ends A B).length = (kept A B).length + 1 := by simp [ends]
  have hk : (ends A B)[(kept A B).length]? = some (A.length, B.length) := by simp [ends]
  have h0 := chg_fol (A := A) (B := B) (ends_rise A B) (fun n x hx => (ends_le A B n x hx).1) (kept A B).length (by omega)
  have h1 := ((ends_rise A B).1 _ _ hk).1
  unfold differ
  rw [hl]
  by_cases c : fI (ends A B) (kept A B).length < A.length ∨ fJ (ends A B) (kept A B).length < B.length
  · rw [chg_yes hk c]
    refine (h0.snoc (e' := A.length) (Nat.le_refl _) ?_).2
    simp only [List.length_take, List.length_drop]
    simp only at h1
    omega
  · rw [chg_no hk c]
    have := h0.2
    simp only at h1
    omega
theorem fol_le {D : List Chg} {e : Nat} (h : Fol D e) : ∀ (d n : Nat), n + d = D.length → aft D n ≤ e
  | 0, n, q => by obtain rfl : n = D.length := by omega
                  exact h.2
  | d + 1, n, q => by
    have ih := fol_le h d (n + 1) (by omega)
    obtain ⟨c, hc⟩ : ∃ c, D[n]? = some c := ⟨_, List.getElem?_eq_getElem (show n < D.length by omega)⟩
    have h1 := h.1 n c hc
    have e1 : aft D (n + 1) = c.at_ + c.drop.length := by simp [aft, hc]
    omega
theorem fol_at {D : List Chg} {e : Nat} (h : Fol D e) {n : Nat} {c : Chg} (hc : D[n]? = some c) : aft D n ≤ c.at_ ∧ c.at_ + c.drop.length ≤ e := by
  have hn := (List.getElem?_eq_some_iff.1 hc).1
  have h1 := fol_le h (D.length - (n + 1)) (n + 1) (by omega)
  have e1 : aft D (n + 1) = c.at_ + c.drop.length := by simp [aft, hc]
  exact ⟨h.1 n c hc, by omega⟩
/-- the first n changes made, with what comes instead -/
def repK (f : Chg → List ByteArray) (T : List ByteArray) (D : List Chg) : Nat → List ByteArray
  | 0 => []
  | n + 1 => repK f T D n ++ (T.drop (aft D n)).take (((D[n]?.map (·.at_)).getD 0) - aft D n) ++ ((D[n]?.map f).getD [])
def rep (f : Chg → List ByteArray) (T : List ByteArray) (D : List Chg) : List ByteArray := repK f T D D.length ++ T.drop (aft D D.length)
theorem rep_step (f : Chg → List ByteArray) (T : List ByteArray) {D : List Chg} {n : Nat} {c : Chg} (hc : D[n]? = some c) : repK f T D (n + 1) = repK f T D n ++ (T.drop (aft D n)).take (c.at_ - aft D n) ++ f c := by simp [repK, hc]
theorem aft_step {D : List Chg} {n : Nat} {c : Chg} (hc : D[n]? = some c) : aft D (n + 1) = c.at_ + c.drop.length := by simp [aft, hc]
theorem rep_wt (f : Chg → List ByteArray) (T : List ByteArray) (D : List Chg) (M : Nat) (hf : ∀ c, c ∈ D → wt (f c) ≤ M) : ∀ n, wt (repK f T D n) ≤ n * (wt T + M)
  | 0 => by simp [repK, wt]
  | n + 1 => by
    have ih := rep_wt f T D M hf n
    have h1 := wt_take (T.drop (aft D n)) (((D[n]?.map (·.at_)).getD 0) - aft D n)
    have h2 : wt (T.drop (aft D n)) ≤ wt T := by
      have := wt_append (T.take (aft D n)) (T.drop (aft D n))
      rw [List.take_append_drop] at this
      omega
    have h3 : wt ((D[n]?.map f).getD []) ≤ M := by
      cases h : D[n]? with
      | none => simp [wt]
      | some c => simpa using hf c (List.mem_of_getElem? h)
    simp only [repK, wt_append]
    rw [Nat.add_mul]
    omega
end WM
