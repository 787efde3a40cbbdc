/- Plain mathematics: the changes from one list to another lead there, and back; how many are kept. -/
import Derived.Test.YtmkbfnghkcjogaaDoorChg
namespace WM
/-- pairs that rise, with equal tokens, and the ends -/
structure Good (X Y : List ByteArray) (K : List (Nat × Nat)) : Prop where
  rise : Rise (K ++ [(X.length, Y.length)]) (X.length + 1) (Y.length + 1)
  eq : ∀ (n : Nat) (x : Nat × Nat), K[n]? = some x → X[x.1]? = Y[x.2]? ∧ x.1 < X.length ∧ x.2 < Y.length
def swp (x : Nat × Nat) : Nat × Nat := (x.2, x.1)
theorem fI_swp (l : List (Nat × Nat)) (n : Nat) : fI (l.map swp) n = fJ l n := by
  cases n with
  | zero => rfl
  | succ n =>
    simp only [fI, fJ, List.getD_eq_getElem?_getD, List.getElem?_map]
    cases l[n]? <;> rfl
theorem fJ_swp (l : List (Nat × Nat)) (n : Nat) : fJ (l.map swp) n = fI l n := by
  cases n with
  | zero => rfl
  | succ n =>
    simp only [fI, fJ, List.getD_eq_getElem?_getD, List.getElem?_map]
    cases l[n]? <;> rfl
theorem Good.swap {X Y : List ByteArray} {K : List (Nat × Nat)} (h : Good X Y K) : Good Y X (K.map swp) := by
  have e : K.map swp ++ [(Y.length, X.length)] = (K ++ [(X.length, Y.length)]).map swp := by simp [swp]
  constructor
  · rw [e]
    obtain ⟨h1, h2, h3⟩ := h.rise
    refine ⟨fun n x hx => ?_, ?_, ?_⟩
    · rw [fI_swp, fJ_swp]
      rw [List.getElem?_map, Option.map_eq_some_iff] at hx
      obtain ⟨y, hy, rfl⟩ := hx
      exact ⟨(h1 n y hy).2, (h1 n y hy).1⟩
    · rw [fI_swp, List.length_map]; exact h3
    · rw [fJ_swp, List.length_map]; exact h2
  · intro n x hx
    rw [List.getElem?_map, Option.map_eq_some_iff] at hx
    obtain ⟨y, hy, rfl⟩ := hx
    obtain ⟨h1, h2, h3⟩ := h.eq n y hy
    exact ⟨h1.symm, h3, h2⟩
theorem kp_eq (A B : List ByteArray) : ∀ i, i ≤ A.length → ∀ (n : Nat) (x : Nat × Nat), (kpK A B i).1[n]? = some x → A[x.1]? = B[x.2]? ∧ x.1 < A.length ∧ x.2 < B.length
  | 0, _, n, x, h => by simp [kpK] at h
  | i + 1, hi, n, x, h => by
    have ih := kp_eq A B i (by omega)
    rcases Classical.em (∃ k, (kpK A B i).2 ≤ k ∧ Fit A B i (kpK A B i).2 k ∧ ∀ q, (kpK A B i).2 ≤ q → q < k → B[q]? ≠ A[i]?) with ⟨k, h1, h2, h3⟩ | hn
    · rw [kp_hit (i := i) rfl h1 h2 h3] at h
      simp only at h
      by_cases e : n < (kpK A B i).1.length
      · rw [List.getElem?_append_left e] at h
        exact ih n x h
      · rw [List.getElem?_append_right (by omega)] at h
        have : n - (kpK A B i).1.length = 0 := by
          rcases Nat.eq_zero_or_pos (n - (kpK A B i).1.length) with z | z
          · exact z
          · rw [List.getElem?_eq_none (by simp; omega)] at h; cases h
        rw [this] at h
        simp at h
        subst h
        obtain ⟨y, a1, a2, _⟩ := h2
        exact ⟨a1.trans a2.symm, by simp only; omega, (List.getElem?_eq_some_iff.1 a2).1⟩
    · rw [kp_miss (i := i) rfl (fun k hk hf => hn ⟨k, hk, hf⟩)] at h
      exact ih n x h
theorem kept_good (X Y : List ByteArray) : Good X Y (kept X Y) := ⟨ends_rise X Y, kp_eq X Y X.length (Nat.le_refl _)⟩
/-- what is made of the first changes, with what is copied up to i -/
theorem rep_app (f : Chg → List ByteArray) (T : List ByteArray) (D : List Chg) (c : Chg) : ∀ n, n ≤ D.length → repK f T (D ++ [c]) n = repK f T D n
  | 0, _ => rfl
  | n + 1, h => by
    have ih := rep_app f T D c n (by omega)
    simp only [repK, ih]
    rw [aft_app _ _ _ (by omega), List.getElem?_append_left (by omega)]
theorem rep_snoc (f : Chg → List ByteArray) (T : List ByteArray) (D : List Chg) (c : Chg) : repK f T (D ++ [c]) (D ++ [c]).length = repK f T D D.length ++ (T.drop (aft D D.length)).take (c.at_ - aft D D.length) ++ f c := by
  rw [show (D ++ [c]).length = D.length + 1 by simp]
  have h : (D ++ [c])[D.length]? = some c := by simp
  rw [rep_step f T h, rep_app f T D c _ (Nat.le_refl _), aft_app _ _ _ (Nat.le_refl _)]
theorem aft_snoc (D : List Chg) (c : Chg) : aft (D ++ [c]) (D ++ [c]).length = c.at_ + c.drop.length := by simp [aft]
theorem take_drop_mid (T : List ByteArray) (a b c : Nat) (h1 : a ≤ b) (h2 : b ≤ c) : (T.drop a).take (b - a) ++ (T.drop b).take (c - b) = (T.drop a).take (c - a) := by
  have e : T.drop b = (T.drop a).drop (b - a) := by rw [List.drop_drop]; congr 1; omega
  rw [e, show c - a = (b - a) + (c - b) by omega, List.take_add]
theorem take_to (T : List ByteArray) (a b : Nat) (h : a ≤ b) : T.take a ++ (T.drop a).take (b - a) = T.take b := by
  have := take_drop_mid T 0 a b (Nat.zero_le _) h
  simpa using this
theorem take_snoc {T : List ByteArray} {j : Nat} {x : ByteArray} (h : T[j]? = some x) : (T.drop j).take (j + 1 - j) = [x] := by
  rw [drop_cons h, show j + 1 - j = 1 by omega]; rfl
def added (c : Chg) : List ByteArray := c.add
theorem lead_inv {X Y : List ByteArray} {K : List (Nat × Nat)} (h : Good X Y K) : ∀ n, n ≤ K.length → (let D := chgK X Y (K ++ [(X.length, Y.length)]) n; repK added X D D.length ++ (X.drop (aft D D.length)).take (fI (K ++ [(X.length, Y.length)]) n - aft D D.length) = Y.take (fJ (K ++ [(X.length, Y.length)]) n) ∧ aft D D.length ≤ fI (K ++ [(X.length, Y.length)]) n)
  | 0, _ => by simp [chgK, repK, aft, fI, fJ]
  | n + 1, hn => by
    obtain ⟨ih, ha⟩ := lead_inv h n (by omega)
    obtain ⟨x, hx⟩ : ∃ x, K[n]? = some x := ⟨_, List.getElem?_eq_getElem (show n < K.length by omega)⟩
    have hxE : (K ++ [(X.length, Y.length)])[n]? = some x := by rw [List.getElem?_append_left (by omega)]; exact hx
    have hr := h.rise.1 n x hxE
    obtain ⟨he, hl1, hl2⟩ := h.eq n x hx
    have eI : fI (K ++ [(X.length, Y.length)]) (n + 1) = x.1 + 1 := by simp [fI, hxE]
    have eJ : fJ (K ++ [(X.length, Y.length)]) (n + 1) = x.2 + 1 := by simp [fJ, hxE]
    have hz := List.getElem?_eq_getElem hl1
    generalize X[x.1] = z at hz
    have hz2 := he.symm.trans hz
    simp only at ih ha ⊢
    by_cases hc : fI (K ++ [(X.length, Y.length)]) n < x.1 ∨ fJ (K ++ [(X.length, Y.length)]) n < x.2
    · rw [chg_yes hxE hc, rep_snoc, aft_snoc, eI, eJ]
      generalize fI (K ++ [(X.length, Y.length)]) n = I at *
      generalize fJ (K ++ [(X.length, Y.length)]) n = J at *
      generalize chgK X Y (K ++ [(X.length, Y.length)]) n = D at *
      have hl : I + ((X.drop I).take (x.1 - I)).length = x.1 := by simp only [List.length_take, List.length_drop]; omega
      refine ⟨?_, by simp only; omega⟩
      show repK added X D D.length ++ (X.drop (aft D D.length)).take (I - aft D D.length) ++ (Y.drop J).take (x.2 - J) ++ (X.drop (I + ((X.drop I).take (x.1 - I)).length)).take (x.1 + 1 - (I + ((X.drop I).take (x.1 - I)).length)) = _
      rw [hl, ih, take_snoc hz, take_to _ _ _ hr.2, ← take_snoc hz2, take_to _ _ _ (Nat.le_succ _)]
    · rw [chg_no hxE hc, eI, eJ]
      generalize fI (K ++ [(X.length, Y.length)]) n = I at *
      generalize fJ (K ++ [(X.length, Y.length)]) n = J at *
      generalize chgK X Y (K ++ [(X.length, Y.length)]) n = D at *
      obtain rfl : I = x.1 := by omega
      obtain rfl : J = x.2 := by omega
      refine ⟨?_, by omega⟩
      rw [← take_drop_mid X _ x.1 (x.1 + 1) ha (Nat.le_succ _), ← List.append_assoc, ih, take_snoc hz, ← take_snoc hz2, take_to _ _ _ (Nat.le_succ _)]
/-- the changes lead from X to Y -/
theorem leads {X Y : List ByteArray} {K : List (Nat × Nat)} (h : Good X Y K) : rep added X (chgK X Y (K ++ [(X.length, Y.length)]) (K ++ [(X.length, Y.length)]).length) = Y := by
  obtain ⟨ih, ha⟩ := lead_inv h K.length (Nat.le_refl _)
  have hxE : (K ++ [(X.length, Y.length)])[K.length]? = some (X.length, Y.length) := by simp
  have hr := h.rise.1 _ _ hxE
  rw [show (K ++ [(X.length, Y.length)]).length = K.length + 1 by simp]
  simp only at ih ha hr
  unfold rep
  by_cases hc : fI (K ++ [(X.length, Y.length)]) K.length < X.length ∨ fJ (K ++ [(X.length, Y.length)]) K.length < Y.length
  · rw [chg_yes hxE hc, rep_snoc, aft_snoc]
    generalize fI (K ++ [(X.length, Y.length)]) K.length = I at *
    generalize fJ (K ++ [(X.length, Y.length)]) K.length = J at *
    generalize chgK X Y (K ++ [(X.length, Y.length)]) K.length = D at *
    have hl : I + ((X.drop I).take (X.length - I)).length = X.length := by simp only [List.length_take, List.length_drop]; omega
    show repK added X D D.length ++ (X.drop (aft D D.length)).take (I - aft D D.length) ++ (Y.drop J).take (Y.length - J) ++ X.drop (I + ((X.drop I).take (X.length - I)).length) = _
    rw [hl, ih, take_to _ _ _ hr.2, List.drop_length, List.append_nil, List.take_length]
  · rw [chg_no hxE hc]
    generalize fI (K ++ [(X.length, Y.length)]) K.length = I at *
    generalize fJ (K ++ [(X.length, Y.length)]) K.length = J at *
    generalize chgK X Y (K ++ [(X.length, Y.length)]) K.length = D at *
    obtain rfl : I = X.length := by omega
    obtain rfl : J = Y.length := by omega
    rw [List.take_length] at ih
    rw [← ih]
    congr 1
    rw [List.take_of_length_le (by rw [List.length_drop]; omega)]
/-- the changes back -/
def turned (X Y : List ByteArray) (K : List (Nat × Nat)) : List Chg := chgK Y X (K.map swp ++ [(Y.length, X.length)]) (K.map swp ++ [(Y.length, X.length)]).length
theorem leads_back {X Y : List ByteArray} {K : List (Nat × Nat)} (h : Good X Y K) : rep added Y (turned X Y K) = X := by
  exact leads h.swap
/-- how many tokens more there are before change n -/
def more (D : List Chg) : Nat → Int
  | 0 => 0
  | n + 1 => more D n + ((D[n]?.map fun c => (c.add.length : Int) - c.drop.length).getD 0)
def turn1 (c : Chg) (m : Int) : Chg := ⟨((c.at_ : Int) + m).toNat, c.add, c.drop⟩
def backL (D : List Chg) : Nat → List Chg
  | 0 => []
  | n + 1 => backL D n ++ (D[n]?.map fun c => turn1 c (more D n)).toList
theorem more_app (D : List Chg) (c : Chg) : ∀ n, n ≤ D.length → more (D ++ [c]) n = more D n
  | 0, _ => rfl
  | n + 1, h => by
    simp only [more, more_app D c n (by omega)]
    rw [List.getElem?_append_left (by omega)]
theorem back_app (D : List Chg) (c : Chg) : ∀ n, n ≤ D.length → backL (D ++ [c]) n = backL D n
  | 0, _ => rfl
  | n + 1, h => by
    simp only [backL, back_app D c n (by omega)]
    rw [List.getElem?_append_left (by omega), more_app D c n (by omega)]
theorem more_snoc (D : List Chg) (c : Chg) : more (D ++ [c]) (D ++ [c]).length = more D D.length + ((c.add.length : Int) - c.drop.length) := by
  rw [show (D ++ [c]).length = D.length + 1 by simp]
  simp only [more, more_app D c _ (Nat.le_refl _)]
  simp
theorem back_snoc (D : List Chg) (c : Chg) : backL (D ++ [c]) (D ++ [c]).length = backL D D.length ++ [turn1 c (more D D.length)] := by
  rw [show (D ++ [c]).length = D.length + 1 by simp]
  simp only [backL, back_app D c _ (Nat.le_refl _), more_app D c _ (Nat.le_refl _)]
  simp
theorem swp_E (X Y : List ByteArray) (K : List (Nat × Nat)) : K.map swp ++ [(Y.length, X.length)] = (K ++ [(X.length, Y.length)]).map swp := by simp [swp]
theorem good_le {X Y : List ByteArray} {K : List (Nat × Nat)} (h : Good X Y K) (n : Nat) (x : Nat × Nat) (hx : (K ++ [(X.length, Y.length)])[n]? = some x) : x.1 ≤ X.length ∧ x.2 ≤ Y.length := by
  have hn := (List.getElem?_eq_some_iff.1 hx).1
  have g := rise_le h.rise ((K ++ [(X.length, Y.length)]).length - (n + 1)) (n + 1) (by omega)
  have e1 : fI (K ++ [(X.length, Y.length)]) (n + 1) = x.1 + 1 := by simp [fI, hx]
  have e2 : fJ (K ++ [(X.length, Y.length)]) (n + 1) = x.2 + 1 := by simp [fJ, hx]
  omega
theorem back_inv {X Y : List ByteArray} {K : List (Nat × Nat)} (h : Good X Y K) : ∀ n, n ≤ (K ++ [(X.length, Y.length)]).length → (let D := chgK X Y (K ++ [(X.length, Y.length)]) n; backL D D.length = chgK Y X (K.map swp ++ [(Y.length, X.length)]) n ∧ (fI (K ++ [(X.length, Y.length)]) n : Int) + more D D.length = fJ (K ++ [(X.length, Y.length)]) n)
  | 0, _ => by simp [chgK, backL, more, fI, fJ]
  | n + 1, hn => by
    obtain ⟨ih, hm⟩ := back_inv h n (by omega)
    obtain ⟨x, hx⟩ : ∃ x, (K ++ [(X.length, Y.length)])[n]? = some x := ⟨_, List.getElem?_eq_getElem (show n < (K ++ [(X.length, Y.length)]).length by omega)⟩
    have hr := h.rise.1 n x hx
    have hl := good_le h n x hx
    have hxs : (K.map swp ++ [(Y.length, X.length)])[n]? = some (swp x) := by rw [swp_E, List.getElem?_map, hx]; rfl
    have eI : fI (K ++ [(X.length, Y.length)]) (n + 1) = x.1 + 1 := by simp [fI, hx]
    have eJ : fJ (K ++ [(X.length, Y.length)]) (n + 1) = x.2 + 1 := by simp [fJ, hx]
    have sI : fI (K.map swp ++ [(Y.length, X.length)]) n = fJ (K ++ [(X.length, Y.length)]) n := by rw [swp_E, fI_swp]
    have sJ : fJ (K.map swp ++ [(Y.length, X.length)]) n = fI (K ++ [(X.length, Y.length)]) n := by rw [swp_E, fJ_swp]
    simp only at ih hm ⊢
    by_cases hc : fI (K ++ [(X.length, Y.length)]) n < x.1 ∨ fJ (K ++ [(X.length, Y.length)]) n < x.2
    · rw [chg_yes hx hc, chg_yes hxs (by rw [sI, sJ]; exact hc.symm), back_snoc, more_snoc, eI, eJ, sI, sJ, ih]
      generalize fI (K ++ [(X.length, Y.length)]) n = I at *
      generalize fJ (K ++ [(X.length, Y.length)]) n = J at *
      generalize chgK X Y (K ++ [(X.length, Y.length)]) n = D at *
      have l1 : ((X.drop I).take (x.1 - I)).length = x.1 - I := by simp only [List.length_take, List.length_drop]; omega
      have l2 : ((Y.drop J).take (x.2 - J)).length = x.2 - J := by simp only [List.length_take, List.length_drop]; omega
      refine ⟨?_, ?_⟩
      · have : turn1 ⟨I, (X.drop I).take (x.1 - I), (Y.drop J).take (x.2 - J)⟩ (more D D.length) = ⟨J, (Y.drop J).take ((swp x).1 - J), (X.drop I).take ((swp x).2 - I)⟩ := by
          unfold turn1 swp
          simp only [Chg.mk.injEq, and_true]
          omega
        rw [this]
      · rw [l1, l2]; omega
    · rw [chg_no hx hc, chg_no hxs (by rw [sI, sJ]; exact fun q => hc q.symm), eI, eJ, ih]
      exact ⟨rfl, by omega⟩
/-- Turn's changes are the changes back -/
theorem back_turned {X Y : List ByteArray} {K : List (Nat × Nat)} (h : Good X Y K) : backL (chgK X Y (K ++ [(X.length, Y.length)]) (K ++ [(X.length, Y.length)]).length) (chgK X Y (K ++ [(X.length, Y.length)]) (K ++ [(X.length, Y.length)]).length).length = turned X Y K := by
  have := (back_inv h _ (Nat.le_refl _)).1
  rw [this]
  unfold turned
  rw [show (K.map swp ++ [(Y.length, X.length)]).length = (K ++ [(X.length, Y.length)]).length by simp]
/-- between two changes there is a token that is kept -/
def Sep (D : List Chg) : Prop := ∀ (n : Nat) (c : Chg), D[n + 1]? = some c → aft D (n + 1) < c.at_
/-- what a change must be: its Drop is there, and it is not empty -/
def Fits (X : List ByteArray) (c : Chg) : Prop := c.at_ + c.drop.length ≤ X.length ∧ (X.drop c.at_).take c.drop.length = c.drop ∧ ¬ (c.drop.length = 0 ∧ c.add.length = 0)
theorem sep_snoc {D : List Chg} {c : Chg} (h : Sep D) (hc : D ≠ [] → aft D D.length < c.at_) : Sep (D ++ [c]) := by
  intro n e he
  have hn := (List.getElem?_eq_some_iff.1 he).1
  simp at hn
  rw [aft_app _ _ _ (by omega)]
  by_cases g : n + 1 < D.length
  · rw [List.getElem?_append_left g] at he
    exact h n e he
  · have hl : D.length = n + 1 := by omega
    rw [List.getElem?_append_right (by omega), show n + 1 - D.length = 0 by omega] at he
    simp at he
    subst he
    rw [← hl]
    exact hc (fun q => by rw [q] at hl; simp at hl)
theorem chg_ok {X Y : List ByteArray} {K : List (Nat × Nat)} (h : Good X Y K) : ∀ n, n ≤ (K ++ [(X.length, Y.length)]).length → (let D := chgK X Y (K ++ [(X.length, Y.length)]) n; Sep D ∧ (D ≠ [] → aft D D.length < fI (K ++ [(X.length, Y.length)]) n) ∧ ∀ c, c ∈ D → Fits X c)
  | 0, _ => ⟨fun n c hc => by simp [chgK] at hc, fun q => absurd rfl q, fun c hc => by simp [chgK] at hc⟩
  | n + 1, hn => by
    obtain ⟨h1, h2, h3⟩ := chg_ok h n (by omega)
    obtain ⟨x, hx⟩ : ∃ x, (K ++ [(X.length, Y.length)])[n]? = some x := ⟨_, List.getElem?_eq_getElem (show n < (K ++ [(X.length, Y.length)]).length by omega)⟩
    have hr := h.rise.1 n x hx
    have hl := good_le h n x hx
    have eI : fI (K ++ [(X.length, Y.length)]) (n + 1) = x.1 + 1 := by simp [fI, hx]
    simp only at h1 h2 h3 ⊢
    by_cases hc : fI (K ++ [(X.length, Y.length)]) n < x.1 ∨ fJ (K ++ [(X.length, Y.length)]) n < x.2
    · rw [chg_yes hx hc, eI]
      generalize fI (K ++ [(X.length, Y.length)]) n = I at *
      generalize fJ (K ++ [(X.length, Y.length)]) n = J at *
      generalize chgK X Y (K ++ [(X.length, Y.length)]) n = D at *
      have l1 : ((X.drop I).take (x.1 - I)).length = x.1 - I := by simp only [List.length_take, List.length_drop]; omega
      have l2 : ((Y.drop J).take (x.2 - J)).length = x.2 - J := by simp only [List.length_take, List.length_drop]; omega
      refine ⟨sep_snoc h1 h2, fun _ => by rw [aft_snoc]; simp only; omega, fun c hcm => ?_⟩
      rw [List.mem_append] at hcm
      rcases hcm with hcm | hcm
      · exact h3 c hcm
      · simp at hcm
        subst hcm
        exact ⟨by simp only; omega, by simp only; rw [l1], by simp only; omega⟩
    · rw [chg_no hx hc, eI]
      exact ⟨h1, fun q => by have := h2 q; omega, h3⟩
theorem good_fol {X Y : List ByteArray} {K : List (Nat × Nat)} (h : Good X Y K) : Fol (chgK X Y (K ++ [(X.length, Y.length)]) (K ++ [(X.length, Y.length)]).length) X.length := by
  have hf := chg_fol (A := X) (B := Y) h.rise (fun n x hx => (good_le h n x hx).1) (K ++ [(X.length, Y.length)]).length (Nat.le_refl _)
  refine ⟨hf.1, ?_⟩
  have hok := chg_ok h _ (Nat.le_refl _)
  simp only at hok
  rcases hD : chgK X Y (K ++ [(X.length, Y.length)]) (K ++ [(X.length, Y.length)]).length with _ | ⟨c, D⟩
  · exact Nat.zero_le _
  · have h2 := hok.2.1 (by rw [hD]; simp)
    rw [hD] at h2
    have e : fI (K ++ [(X.length, Y.length)]) (K ++ [(X.length, Y.length)]).length = X.length + 1 := fI_end _ _
    omega
def moved (D : List Chg) : Nat → Nat
  | 0 => 0
  | n + 1 => moved D n + ((D[n]?.map fun c => c.drop.length + c.add.length).getD 0)
theorem moved_app (D : List Chg) (c : Chg) : ∀ n, n ≤ D.length → moved (D ++ [c]) n = moved D n
  | 0, _ => rfl
  | n + 1, h => by
    simp only [moved, moved_app D c n (by omega)]
    rw [List.getElem?_append_left (by omega)]
theorem moved_snoc (D : List Chg) (c : Chg) : moved (D ++ [c]) (D ++ [c]).length = moved D D.length + (c.drop.length + c.add.length) := by
  rw [show (D ++ [c]).length = D.length + 1 by simp]
  simp only [moved, moved_app D c _ (Nat.le_refl _)]
  simp
theorem moved_inv {X Y : List ByteArray} {K : List (Nat × Nat)} (h : Good X Y K) : ∀ n, n ≤ (K ++ [(X.length, Y.length)]).length → (let D := chgK X Y (K ++ [(X.length, Y.length)]) n; moved D D.length + 2 * n = fI (K ++ [(X.length, Y.length)]) n + fJ (K ++ [(X.length, Y.length)]) n)
  | 0, _ => by simp [chgK, moved, fI, fJ]
  | n + 1, hn => by
    have ih := moved_inv h n (by omega)
    obtain ⟨x, hx⟩ : ∃ x, (K ++ [(X.length, Y.length)])[n]? = some x := ⟨_, List.getElem?_eq_getElem (show n < (K ++ [(X.length, Y.length)]).length by omega)⟩
    have hr := h.rise.1 n x hx
    have hl := good_le h n x hx
    have eI : fI (K ++ [(X.length, Y.length)]) (n + 1) = x.1 + 1 := by simp [fI, hx]
    have eJ : fJ (K ++ [(X.length, Y.length)]) (n + 1) = x.2 + 1 := by simp [fJ, hx]
    simp only at ih ⊢
    by_cases hc : fI (K ++ [(X.length, Y.length)]) n < x.1 ∨ fJ (K ++ [(X.length, Y.length)]) n < x.2
    · rw [chg_yes hx hc, moved_snoc, eI, eJ]
      simp only [List.length_take, List.length_drop]
      omega
    · rw [chg_no hx hc, eI, eJ]
      omega
theorem moved_all {X Y : List ByteArray} {K : List (Nat × Nat)} (h : Good X Y K) : moved (chgK X Y (K ++ [(X.length, Y.length)]) (K ++ [(X.length, Y.length)]).length) (chgK X Y (K ++ [(X.length, Y.length)]) (K ++ [(X.length, Y.length)]).length).length + 2 * K.length = X.length + Y.length := by
  have := moved_inv h _ (Nat.le_refl _)
  simp only at this
  rw [fI_end, fJ_end] at this
  simp only [List.length_append, List.length_cons, List.length_nil] at this ⊢
  omega
theorem lcs_comm : ∀ (n : Nat) (a b : List ByteArray), a.length + b.length ≤ n → lcs a b = lcs b a
  | 0, a, b, h => by
    have ha : a = [] := List.eq_nil_of_length_eq_zero (by omega)
    have hb : b = [] := List.eq_nil_of_length_eq_zero (by omega)
    subst ha; subst hb; rfl
  | n + 1, [], b, _ => (lcs_nil' b).symm
  | n + 1, x :: a, [], _ => lcs_nil' _
  | n + 1, x :: a, y :: b, h => by
    simp only [List.length_cons] at h
    rw [lcs_cons, lcs_cons]
    by_cases e : x = y
    · rw [if_pos e, if_pos e.symm, lcs_comm n a b (by omega)]
    · rw [if_neg e, if_neg (Ne.symm e), lcs_comm n a (y :: b) (by simp only [List.length_cons]; omega), lcs_comm n (x :: a) b (by simp only [List.length_cons]; omega)]
      omega
theorem tb_nofit {A B : List ByteArray} {i : Nat} (hi : i < A.length) : ∀ (d j : Nat), j + d = B.length → (∀ k, j ≤ k → ¬ Fit A B i j k) → tb A B i j = tb A B (i + 1) j
  | 0, j, hj, _ => by obtain rfl : j = B.length := by omega
                      rw [tb_end2, tb_end2]
  | d + 1, j, hj, hn => by
    have hx := List.getElem?_eq_getElem hi
    have hjB : j < B.length := by omega
    have hy := List.getElem?_eq_getElem hjB
    by_cases e : A[i] = B[j]
    · exact absurd ⟨_, hx, by rw [hy, e], by rw [tb_eq hx hy e]; omega⟩ (hn j (Nat.le_refl _))
    · have h1 := tb_ne hx hy e
      have h2 := (tb_col (A := A) (i := i + 1) hy).1
      have h3 := (tb_row (B := B) (j := j) hx).1
      by_cases q : tb A B i (j + 1) = tb A B i j
      · have ih := tb_nofit (B := B) hi d (j + 1) (by omega) (fun k hk hf => by
          obtain ⟨z, a1, a2, a3⟩ := hf
          exact hn k (by omega) ⟨z, a1, a2, by rw [a3, q]⟩)
        omega
      · have h4 := (tb_col (A := A) (i := i) hy).1
        omega
theorem kp_sum (A B : List ByteArray) : ∀ i, i ≤ A.length → (kpK A B i).1.length + tb A B i (kpK A B i).2 = tb A B 0 0
  | 0, _ => by simp [kpK]
  | i + 1, hi => by
    have ih := kp_sum A B i (by omega)
    have hb := (kp_rise A B i (by omega)).2
    rcases Classical.em (∃ k, (kpK A B i).2 ≤ k ∧ Fit A B i (kpK A B i).2 k) with ⟨k, h1, h2⟩ | h
    · obtain ⟨x, a1, a2, a3⟩ := id h2
      cases hfo : firstOf x (B.drop (kpK A B i).2) with
      | none =>
        have := firstOf_none hfo (k - (kpK A B i).2)
        rw [List.getElem?_drop, show (kpK A B i).2 + (k - (kpK A B i).2) = k by omega] at this
        exact absurd a2 this
      | some s =>
        obtain ⟨f1, f2⟩ := firstOf_some hfo
        rw [List.getElem?_drop] at f1
        have hsk : (kpK A B i).2 + s ≤ k := by
          rcases Nat.lt_or_ge k ((kpK A B i).2 + s) with g | g
          · have := f2 (k - (kpK A B i).2) (by omega)
            rw [List.getElem?_drop, show (kpK A B i).2 + (k - (kpK A B i).2) = k by omega] at this
            exact absurd a2 this
          · exact g
        have hf := fit_first a1 (Nat.le_add_right _ s) hsk f1 h2
        have hh := kp_hit (i := i) (l := (kpK A B i).1) (j := (kpK A B i).2) rfl (Nat.le_add_right _ s) hf (fun q g1 g2 he => by
          have := f2 (q - (kpK A B i).2) (by omega)
          rw [List.getElem?_drop, show (kpK A B i).2 + (q - (kpK A B i).2) = q by omega] at this
          exact this (he.trans a1))
        rw [hh]
        obtain ⟨_, _, _, b3⟩ := hf
        simp only [List.length_append, List.length_cons, List.length_nil]
        omega
    · have hm := kp_miss (i := i) (l := (kpK A B i).1) (j := (kpK A B i).2) rfl (fun k hk hf => h ⟨k, hk, hf.1⟩)
      rw [hm]
      have := tb_nofit (A := A) (B := B) (i := i) (by omega) (B.length - (kpK A B i).2) (kpK A B i).2 (by omega) (fun k hk hf => h ⟨k, hk, hf⟩)
      simp only
      omega
theorem kept_lcs (X Y : List ByteArray) : (kept X Y).length = lcs X Y := by
  have h := kp_sum X Y X.length (Nat.le_refl _)
  rw [tb_end1] at h
  exact h
/-- the distance is the same from both sides -/
theorem kept_comm (X Y : List ByteArray) : (kept X Y).length = (kept Y X).length := by
  rw [kept_lcs, kept_lcs]
  exact lcs_comm _ _ _ (Nat.le_refl _)
end WM
