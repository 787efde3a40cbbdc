/- Right spans, covered texts: plain mathematics. -/
import Derived.Test.YtflilepmhidndaaDoorRedM
import Derived.Test.YtflilepmhidndaaDoorBits
namespace WM
theorem spBad_of {z : Int} : ∀ {L : List (Int × Int)} {last : Int}, sep L → (∀ s, s ∈ L → 0 ≤ s.1 ∧ s.2 ≤ z ∧ last < s.1) → spBad z last L = 0
  | [], _, _, _ => rfl
  | s :: L, last, h, hb => by
    have h1 := hb s List.mem_cons_self
    simp only [spBad]
    rw [if_neg (by have := h.1; omega), if_neg (by omega)]
    exact spBad_of h.2.2 fun t ht => ⟨(hb t (List.mem_cons_of_mem _ ht)).1, (hb t (List.mem_cons_of_mem _ ht)).2.1, h.2.1 t ht⟩
theorem spFault_of {z : Int} {L : List (Int × Int)} (hz : 0 ≤ z) (hz2 : z ≤ 200000) (hl : L.length ≤ 1000) (h : sep L) (hb : ∀ s, s ∈ L → 0 ≤ s.1 ∧ s.2 ≤ z) : spFault z L = 0 := by
  unfold spFault
  rw [if_neg (by omega), if_neg (by omega)]
  exact spBad_of h fun s hs => ⟨(hb s hs).1, (hb s hs).2, by have := (hb s hs).1; omega⟩
theorem sep_size : ∀ {L : List (Int × Int)} {a n : Int}, sep L → (∀ s, s ∈ L → a ≤ s.1 ∧ s.2 ≤ n) → a ≤ n → (L.length : Int) ≤ n - a
  | [], a, n, _, _, h => by simp; omega
  | s :: L, a, n, h, hb, _ => by
    have h1 := hb s List.mem_cons_self
    have ih := sep_size (a := s.2) h.2.2 (fun t ht => ⟨Int.le_of_lt (h.2.1 t ht), (hb t (List.mem_cons_of_mem _ ht)).2⟩) h1.2
    have := h.1
    rw [List.length_cons]
    omega
theorem cov_in {M : List (Int × Int)} {n : Int} (h : sep M) (hc : ∀ i, cov M i → 0 ≤ i ∧ i < n) : ∀ s, s ∈ M → 0 ≤ s.1 ∧ s.2 ≤ n := fun s hs => by
  have h1 := sep_ne h s hs
  have h2 := hc s.1 ⟨s, hs, Int.le_refl _, h1⟩
  have h3 := hc (s.2 - 1) ⟨s, hs, by omega, by omega⟩
  omega
theorem in_cov {M : List (Int × Int)} {n : Int} (h : ∀ s, s ∈ M → 0 ≤ s.1 ∧ s.2 ≤ n) : ∀ i, cov M i → 0 ≤ i ∧ i < n := fun i ⟨s, hs, h1, h2⟩ => by
  have := h s hs
  omega
theorem right_of {M : List (Int × Int)} {n z : Int} (h : sep M) (hc : ∀ i, cov M i → 0 ≤ i ∧ i < n) (hn : 0 ≤ n) (hn2 : n ≤ 1000) (hnz : n ≤ z) (hz : z ≤ 200000) : spFault z M = 0 ∧ bCode M = 0 ∧ bList M = M := by
  have h1 := cov_in h hc
  have h2 := sep_size h h1 hn
  refine ⟨spFault_of (by omega) hz (by omega) h fun s hs => ⟨(h1 s hs).1, by have := (h1 s hs).2; omega⟩, ?_, ?_⟩
  · unfold bCode; rw [if_neg (by omega)]
  · unfold bList; rw [if_neg (by omega)]
end WM
namespace PT
theorem asc_covd {l : List UInt8} {C : Int → Prop} {i : Nat} (hv : Go.Lib.validD l = true) (h : (l.getD i 0).toNat < 128) (hc : covd l C i) : C i := by
  obtain ⟨k, h1, h2, h3⟩ := hc
  have hd := dn_stop (l := l) (i := i) (cont_small h)
  rw [hd] at h3
  have hk := dn_le l k
  by_cases e : k = i
  · rw [← e]; exact h1
  · have := (lead_high l.length l (Nat.le_refl _) hv).1 i (by omega) (dn_mid l k (i + 1) (by omega) (by omega))
    omega
theorem okCh_rdc (b : UInt8) : TB.okCh (rdc b) = true := by
  rcases rdc_is b with h | h | h <;> rw [h] <;> decide
theorem red_ok (f : Nat → Bool) (l : List UInt8) (h : l.all TB.okCh = true) : (red f l).all TB.okCh = true := by
  rw [List.all_eq_true] at h ⊢
  intro b hb
  obtain ⟨i, hi⟩ := List.getElem?_of_mem hb
  rw [red_at] at hi
  rcases Nat.lt_or_ge i l.length with h1 | h1
  · rw [List.getElem?_eq_getElem h1] at hi
    simp only [Option.map_some, Option.some.injEq] at hi
    rw [← hi]
    split
    · exact okCh_rdc _
    · exact h _ (List.getElem_mem h1)
  · rw [List.getElem?_eq_none h1] at hi; cases hi
theorem red_end (f : Nat → Bool) (l : List UInt8) (h : Go.Lib.hasSuffix l [10] = true) : Go.Lib.hasSuffix (red f l) [10] = true := by
  unfold Go.Lib.hasSuffix at h ⊢
  rw [List.isSuffixOf_iff_suffix] at h ⊢
  obtain ⟨K, rfl⟩ := h
  refine ⟨red f K, ?_⟩
  rw [red_append]
  congr 1
  simp only [red]
  split <;> rfl
theorem red_size (f : Nat → Bool) (s : ByteArray) : (⟨(red f s.data.toList).toArray⟩ : ByteArray).size = s.size := by
  show (red f s.data.toList).toArray.size = s.data.size
  rw [List.size_toArray, red_len, Array.length_toList]
theorem red_body (f : Nat → Bool) (s : ByteArray) (hw : Whole s.data.toList f) (h : TB.bodyC s = 0) : TB.bodyC ⟨(red f s.data.toList).toArray⟩ = 0 := by
  unfold TB.bodyC at h ⊢
  rw [red_size]
  by_cases h1 : 20000 < s.size
  · rw [if_pos h1] at h; cases h
  · rw [if_neg h1] at h ⊢
    by_cases h2 : TB.text s.data.toList = true
    · rw [if_pos]
      unfold TB.text TB.printed at h2 ⊢
      simp only [Bool.and_eq_true, Bool.or_eq_true] at h2 ⊢
      refine ⟨?_, red_ok f _ h2.2.1, red_valid _ _ f (Nat.le_refl _) h2.2.2 hw⟩
      rcases h2.1 with h3 | h3
      · left
        have : s.data.toList = [] := List.isEmpty_iff.1 h3
        rw [this]; rfl
      · exact .inr (red_end f _ h3)
    · rw [if_neg h2] at h; cases h
theorem body_valid {s : ByteArray} (h : TB.bodyC s = 0) : s.size ≤ 20000 ∧ Go.Lib.validD s.data.toList = true := by
  unfold TB.bodyC at h
  split at h
  · cases h
  · split at h
    · rename_i h1 h2
      unfold TB.text TB.printed at h2
      simp only [Bool.and_eq_true] at h2
      exact ⟨by omega, h2.2.2⟩
    · cases h
theorem body_head {s : ByteArray} (h : TB.bodyC s = 0) : cont (s.data.toList.getD 0 0) = false := (lead_high _ _ (Nat.le_refl _) (body_valid h).2).2
/-- at a covered byte lies a sign, a blank or a line feed -/
theorem red_in {l : List UInt8} {C : Int → Prop} {i : Nat} (hi : i < l.length) (h : C i) : (red (covB l C) l).getD i 0 = 35 ∨ (red (covB l C) l).getD i 0 = 32 ∨ (red (covB l C) l).getD i 0 = 10 := by
  rw [red_getD _ l i hi, if_pos (covB_iff.2 ⟨i, h, hi, rfl⟩)]
  exact rdc_is _
/-- an ASCII byte that is not covered stays -/
theorem red_out {l : List UInt8} {C : Int → Prop} {i : Nat} (hv : Go.Lib.validD l = true) (hi : i < l.length) (ha : (l.getD i 0).toNat < 128) (h : ¬ C i) : (red (covB l C) l).getD i 0 = l.getD i 0 := by
  rw [red_getD _ l i hi, if_neg (fun hc => h (asc_covd hv ha (covB_iff.1 hc)))]
theorem get_D {s : ByteArray} {i : Nat} (h : i < s.size) : s[i] = s.data.toList.getD i 0 := by
  rw [List.getD_eq_getElem?_getD, List.getElem?_eq_getElem (by simpa using h)]
  simp [ByteArray.getElem_eq_getElem_data]
end PT
