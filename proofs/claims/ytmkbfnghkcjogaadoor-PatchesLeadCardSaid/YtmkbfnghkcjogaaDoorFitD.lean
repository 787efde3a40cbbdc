/- The changes from one list of tokens to another fit, there and back. -/
import Derived.Test.YtmkbfnghkcjogaaDoorTurn
import Derived.Test.YtmkbfnghkcjogaaDoorLead
namespace WM
theorem chg_parts (X Y : List ByteArray) (l : List (Nat × Nat)) : ∀ n c, c ∈ chgK X Y l n → ((∀ x, x ∈ c.drop → x ∈ X) ∧ c.drop.length ≤ X.length) ∧ ((∀ x, x ∈ c.add → x ∈ Y) ∧ c.add.length ≤ Y.length)
  | 0, c, h => by simp [chgK] at h
  | n + 1, c, h => by
    simp only [chgK, List.mem_append] at h
    rcases h with h | h
    · exact chg_parts X Y l n c h
    · split at h
      · simp at h
        subst h
        refine ⟨⟨fun x hx => List.mem_of_mem_drop (List.mem_of_mem_take hx), ?_⟩, fun x hx => List.mem_of_mem_drop (List.mem_of_mem_take hx), ?_⟩ <;> simp only [List.length_take, List.length_drop] <;> omega
      · simp at h
theorem rep_long (f : Chg → List ByteArray) (T : List ByteArray) (D : List Chg) (M : Nat) (hf : ∀ c, c ∈ D → (f c).length ≤ M) : ∀ n, (repK f T D n).length ≤ n * (T.length + M)
  | 0 => by simp [repK]
  | n + 1 => by
    have ih := rep_long f T D M hf n
    have h3 : ((D[n]?.map f).getD []).length ≤ M := by
      cases h : D[n]? with
      | none => simp
      | some c => simpa using hf c (List.mem_of_getElem? h)
    simp only [repK, List.length_append, List.length_take, List.length_drop]
    rw [Nat.add_mul]
    omega
theorem hat_inv {X Y : List ByteArray} {K : List (Nat × Nat)} (h : Good X Y K) : ∀ n, n ≤ (K ++ [(X.length, Y.length)]).length → (let D := chgK X Y (K ++ [(X.length, Y.length)]) n; ∀ (m : Nat) (c : Chg), D[m]? = some c → 0 ≤ (c.at_ : Int) + more D m ∧ (c.at_ : Int) + more D m ≤ Y.length ∧ c.at_ ≤ X.length)
  | 0, _ => by simp [chgK]
  | n + 1, hn => by
    have ih := hat_inv h n (by omega)
    have hm := (back_inv h n (by omega)).2
    obtain ⟨x, hx⟩ : ∃ x, (K ++ [(X.length, Y.length)])[n]? = some x := ⟨_, List.getElem?_eq_getElem (show n < (K ++ [(X.length, Y.length)]).length by omega)⟩
    have hr := h.rise.1 n x hx
    have hl := good_le h n x hx
    simp only at ih hm ⊢
    by_cases hc : fI (K ++ [(X.length, Y.length)]) n < x.1 ∨ fJ (K ++ [(X.length, Y.length)]) n < x.2
    · rw [chg_yes hx hc]
      generalize fI (K ++ [(X.length, Y.length)]) n = I at *
      generalize fJ (K ++ [(X.length, Y.length)]) n = J at *
      generalize chgK X Y (K ++ [(X.length, Y.length)]) n = D at *
      intro m c hmc
      have hml := (List.getElem?_eq_some_iff.1 hmc).1
      simp at hml
      rw [more_app _ _ _ (by omega)]
      by_cases g : m < D.length
      · rw [List.getElem?_append_left g] at hmc
        exact ih m c hmc
      · obtain rfl : m = D.length := by omega
        rw [List.getElem?_append_right (Nat.le_refl _), Nat.sub_self] at hmc
        simp at hmc
        subst hmc
        simp only
        omega
    · rw [chg_no hx hc]
      exact ih
end WM
namespace Go.Proofs.YtmkbfnghkcjogaaDoor
open Go.RowKit

/-- tokens of small size, few of them -/
structure Tks (X : List ByteArray) : Prop where
  toks : ∀ x, x ∈ X → WM.IsTok x ∧ x.size ≤ 1000000000
  len : X.length ≤ 2000
  join : (WM.joinT X).length ≤ 20000
theorem mem_wt : ∀ (l : List ByteArray) (x : ByteArray), x ∈ l → x.size ≤ WM.wt l
  | y :: l, x, h => by
    rcases List.mem_cons.1 h with rfl | h
    · simp only [WM.wt]; omega
    · have := mem_wt l x h
      simp only [WM.wt]; omega
theorem tks_of (s : ByteArray) (h : s.size ≤ 600) : Tks (WM.toks s) := by
  have h1 := WM.wt_len (WM.toks s)
  have h2 := WM.toks_wt s
  have h3 := WM.joinT_wt (WM.toks s)
  exact ⟨fun x hx => ⟨WM.toks_ok s x hx, by have := mem_wt _ x hx; omega⟩, by omega, by omega⟩
theorem ok_good {X Y : List ByteArray} {K : List (Nat × Nat)} (h : WM.Good X Y K) (hX : Tks X) (hY : Tks Y) (hl : K.length ≤ 2000) : OkD X (WM.chgK X Y (K ++ [(X.length, Y.length)]) (K ++ [(X.length, Y.length)]).length) := by
  have hp := WM.chg_parts X Y (K ++ [(X.length, Y.length)]) (K ++ [(X.length, Y.length)]).length
  have hn := WM.chg_len X Y (K ++ [(X.length, Y.length)]) (K ++ [(X.length, Y.length)]).length
  have hok := WM.chg_ok h _ (Nat.le_refl _)
  have hL := WM.leads h
  have hD : (K ++ [(X.length, Y.length)]).length = K.length + 1 := by simp
  have lX := hX.len
  have lY := hY.len
  simp only at hok
  refine ⟨WM.good_fol h, hok.1, hok.2.2, fun c hc => ⟨fun x hx => hX.toks x ((hp c hc).1.1 x hx), fun x hx => hY.toks x ((hp c hc).2.1 x hx)⟩, by omega, fun c hc => by have := (hp c hc).2.2; omega, fun n hn2 => ?_, by rw [hL]; exact hY.join⟩
  have h1 := WM.rep_long WM.added X (WM.chgK X Y (K ++ [(X.length, Y.length)]) (K ++ [(X.length, Y.length)]).length) 2000 (fun c hc => by have := (hp c hc).2.2; unfold WM.added; omega) n
  have h2 : n * (X.length + 2000) ≤ 2001 * 4000 := Nat.mul_le_mul (by omega) (by omega)
  omega
theorem kept_small (X Y : List ByteArray) (hX : X.length ≤ 2000) : (WM.kept X Y).length ≤ 2000 := by
  have := WM.ends_len X Y
  unfold WM.ends at this
  simp at this
  omega
theorem differ_ok {X Y : List ByteArray} (hX : Tks X) (hY : Tks Y) : OkD X (WM.differ X Y) := ok_good (WM.kept_good X Y) hX hY (kept_small X Y hX.len)
theorem turned_ok {X Y : List ByteArray} (hX : Tks X) (hY : Tks Y) : OkD Y (WM.turned X Y (WM.kept X Y)) := ok_good (WM.kept_good X Y).swap hY hX (by rw [List.length_map]; exact kept_small X Y hX.len)
theorem differ_hat {X Y : List ByteArray} (hX : Tks X) (hY : Tks Y) (n : Nat) (c : WM.Chg) (hc : (WM.differ X Y)[n]? = some c) : (0 ≤ (c.at_ : Int) + WM.more (WM.differ X Y) n ∧ (c.at_ : Int) + WM.more (WM.differ X Y) n ≤ 1000000) ∧ (-1000000 ≤ WM.more (WM.differ X Y) n ∧ WM.more (WM.differ X Y) n ≤ 1000000) ∧ c.drop.length ≤ 1000000 := by
  have h1 := WM.hat_inv (WM.kept_good X Y) _ (Nat.le_refl _) n c hc
  have h2 := (WM.chg_parts X Y (WM.ends X Y) (WM.ends X Y).length c (List.mem_of_getElem? hc)).1.2
  have lX := hX.len
  have lY := hY.len
  have h3 : 0 ≤ (c.at_ : Int) + WM.more (WM.differ X Y) n ∧ (c.at_ : Int) + WM.more (WM.differ X Y) n ≤ Y.length ∧ c.at_ ≤ X.length := h1
  omega
theorem differ_leads (X Y : List ByteArray) : WM.rep WM.added X (WM.differ X Y) = Y := WM.leads (WM.kept_good X Y)
theorem turned_leads (X Y : List ByteArray) : WM.rep WM.added Y (WM.turned X Y (WM.kept X Y)) = X := WM.leads_back (WM.kept_good X Y)
theorem differ_back (X Y : List ByteArray) : WM.backL (WM.differ X Y) (WM.differ X Y).length = WM.turned X Y (WM.kept X Y) := WM.back_turned (WM.kept_good X Y)
end Go.Proofs.YtmkbfnghkcjogaaDoor
