/- Code points of a text by their bytes; what is covered: plain mathematics. -/
import Derived.Test.YtflilepmhidndaaDoorSpM
import Derived.Lib.ValidLaws
namespace PT
/-- a byte that goes on with a code point -/
def cont (b : UInt8) : Bool := decide (b.toNat / 64 = 2)
/-- what is laid over a byte -/
def rdc (b : UInt8) : UInt8 := if b = 32 ∨ b = 10 then b else 35
theorem rdc_small (b : UInt8) : (rdc b).toNat < 128 := by
  unfold rdc
  split
  · rename_i h; rcases h with rfl | rfl <;> decide
  · decide
theorem rdc_twice (b : UInt8) : rdc (rdc b) = rdc b := by
  rcases (show rdc b = 35 ∨ rdc b = 32 ∨ rdc b = 10 from by
    unfold rdc
    split
    · rename_i h; rcases h with rfl | rfl <;> decide
    · exact .inl rfl) with h | h | h <;> rw [h] <;> decide
theorem rdc_is (b : UInt8) : rdc b = 35 ∨ rdc b = 32 ∨ rdc b = 10 := by
  unfold rdc
  split
  · rename_i h; rcases h with rfl | rfl <;> decide
  · exact .inl rfl
theorem cont_small {b : UInt8} (h : b.toNat < 128) : cont b = false := decide_eq_false (by omega)
theorem cont_rdc (b : UInt8) : cont (rdc b) = false := cont_small (rdc_small b)
/-- the bytes with f are covered -/
def red : (Nat → Bool) → List UInt8 → List UInt8
  | _, [] => []
  | f, b :: t => (if f 0 then rdc b else b) :: red (fun i => f (i + 1)) t
theorem red_len : ∀ (f : Nat → Bool) (l : List UInt8), (red f l).length = l.length
  | _, [] => rfl
  | f, b :: t => by simp [red, red_len _ t]
theorem red_at : ∀ (f : Nat → Bool) (l : List UInt8) (i : Nat), (red f l)[i]? = (l[i]?).map fun b => if f i then rdc b else b
  | f, [], i => by simp [red]
  | f, b :: t, 0 => by simp [red]
  | f, b :: t, i + 1 => by simp [red, red_at _ t i]
theorem red_append : ∀ (f : Nat → Bool) (c r : List UInt8), red f (c ++ r) = red f c ++ red (fun i => f (i + c.length)) r
  | f, [], r => by simp [red]
  | f, b :: t, r => by
    simp only [List.cons_append, red, red_append _ t r, List.length_cons]
    congr 3
theorem red_no : ∀ (f : Nat → Bool) (l : List UInt8), (∀ i, i < l.length → f i = false) → red f l = l
  | f, [], _ => rfl
  | f, b :: t, h => by
    simp only [red]
    rw [h 0 (by simp), red_no _ t fun i hi => h (i + 1) (by simpa using hi)]
    rfl
theorem red_yes : ∀ (f : Nat → Bool) (l : List UInt8), (∀ i, i < l.length → f i = true) → ∀ b, b ∈ red f l → b.toNat < 128
  | f, [], _, b, h => by simp [red] at h
  | f, a :: t, h, b, hb => by
    simp only [red, List.mem_cons] at hb
    rcases hb with rfl | hb
    · rw [h 0 (by simp)]; exact rdc_small a
    · exact red_yes _ t (fun i hi => h (i + 1) (by simpa using hi)) b hb
theorem checkN_some {n b1 b2 b3 sz lo hi k : Nat} (hlo : sz = 2 ∨ sz = 3 ∨ sz = 4 → 128 ≤ lo ∧ hi ≤ 191) (h : Go.Lib.checkN n b1 b2 b3 sz lo hi = some k) :
    2 ≤ k ∧ k ≤ n ∧ k ≤ 4 ∧ (128 ≤ b1 ∧ b1 ≤ 191) ∧ (3 ≤ k → 128 ≤ b2 ∧ b2 ≤ 191) ∧ (4 ≤ k → 128 ≤ b3 ∧ b3 ≤ 191) ∧
    ∀ n' c2 c3, k ≤ n' → (3 ≤ k → c2 = b2) → (4 ≤ k → c3 = b3) → Go.Lib.checkN n' b1 c2 c3 sz lo hi = some k := by
  unfold Go.Lib.checkN at h
  by_cases h2 : sz = 2
  · rw [if_pos h2] at h
    have hb := hlo (.inl h2)
    split at h
    · cases h
    · obtain rfl := Option.some.inj h
      refine ⟨by omega, by omega, by omega, by omega, by omega, by omega, fun n' c2 c3 hn _ _ => ?_⟩
      unfold Go.Lib.checkN
      rw [if_pos h2, if_neg (by omega)]
  · rw [if_neg h2] at h
    by_cases h3 : sz = 3
    · rw [if_pos h3] at h
      have hb := hlo (.inr (.inl h3))
      split at h
      · cases h
      · obtain rfl := Option.some.inj h
        refine ⟨by omega, by omega, by omega, by omega, by omega, by omega, fun n' c2 c3 hn e2 _ => ?_⟩
        have := e2 (by omega)
        subst this
        unfold Go.Lib.checkN
        rw [if_neg h2, if_pos h3, if_neg (by omega)]
    · rw [if_neg h3] at h
      by_cases h4 : sz = 4
      · rw [if_pos h4] at h
        have hb := hlo (.inr (.inr h4))
        split at h
        · cases h
        · obtain rfl := Option.some.inj h
          refine ⟨by omega, by omega, by omega, by omega, by omega, by omega, fun n' c2 c3 hn e2 e3 => ?_⟩
          obtain rfl := e2 (by omega)
          obtain rfl := e3 (by omega)
          unfold Go.Lib.checkN
          rw [if_neg h2, if_neg h3, if_pos h4, if_neg (by omega)]
      · rw [if_neg h4] at h; cases h
theorem acc_in : ∀ b : Fin 256, 128 ≤ b.val → (Go.Lib.firstT b.val % 8 = 2 ∨ Go.Lib.firstT b.val % 8 = 3 ∨ Go.Lib.firstT b.val % 8 = 4) → 128 ≤ Go.Lib.accLo (Go.Lib.firstT b.val / 16) ∧ Go.Lib.accHi (Go.Lib.firstT b.val / 16) ≤ 191 := by decide +kernel
/-- the first code point of valid bytes -/
theorem chunk {l : List UInt8} (hv : Go.Lib.validD l = true) (hne : l ≠ []) : ∃ c r, l = c ++ r ∧ 0 < c.length ∧ cont (c.getD 0 0) = false ∧ (∀ i, 0 < i → i < c.length → cont (c.getD i 0) = true) ∧ (c.length = 1 ∨ 128 ≤ (c.getD 0 0).toNat) ∧ Go.Lib.validD r = true ∧ ∀ r', Go.Lib.validD (c ++ r') = Go.Lib.validD r' := by
  by_cases h0 : (l.getD 0 0).toNat < 128
  · obtain ⟨b, t, rfl⟩ := List.exists_cons_of_ne_nil hne
    have hb : b.toNat < 128 := by simpa using h0
    exact ⟨[b], t, rfl, by simp, cont_small hb, fun i h1 h2 => by simp at h2; omega, .inl rfl, by rw [Go.Lib.validD_cons b t hb] at hv; exact hv, fun r' => Go.Lib.validD_cons b r' hb⟩
  · have h0' : 128 ≤ (l.getD 0 0).toNat := by omega
    have hL := Go.Lib.validD_lead l hne h0'
    rw [hv] at hL
    split at hL
    · cases hL
    · rename_i k hk
      have hlt := (l.getD 0 0).toNat_lt
      obtain ⟨k1, k2, k3, k4, k5, k6, k7⟩ := checkN_some (acc_in ⟨(l.getD 0 0).toNat, hlt⟩ h0') hk
      have hg : ∀ i, i < k → (l.take k).getD i 0 = l.getD i 0 := fun i hi => by
        rw [List.getD_eq_getElem?_getD, List.getElem?_take_of_lt hi, ← List.getD_eq_getElem?_getD]
      have hgr : ∀ r' i, i < k → (l.take k ++ r').getD i 0 = l.getD i 0 := fun r' i hi => by
        rw [List.getD_eq_getElem?_getD, List.getElem?_append_left (by rw [List.length_take]; omega), List.getElem?_take_of_lt hi, ← List.getD_eq_getElem?_getD]
      have hlen : (l.take k).length = k := by rw [List.length_take]; omega
      have hhead : cont (l.getD 0 0) = false := by
        refine decide_eq_false fun hc => ?_
        have hb : 128 ≤ (l.getD 0 0).toNat ∧ (l.getD 0 0).toNat < 194 := by omega
        have := Go.Lib.decodeN_bad l.length (l.getD 0 0).toNat (l.getD 1 0).toNat (l.getD 2 0).toNat (l.getD 3 0).toNat (.inl hb)
        rcases Go.Lib.check_decode l.length (l.getD 0 0).toNat (l.getD 1 0).toNat (l.getD 2 0).toNat (l.getD 3 0).toNat (by omega) h0' hlt (l.getD 1 0).toNat_lt (l.getD 2 0).toNat_lt (l.getD 3 0).toNat_lt with ⟨h1, _⟩ | ⟨k', hk', h1, h2⟩
        · rw [hk] at h1; cases h1
        · rw [this] at h2; dsimp only at h2; omega
      refine ⟨l.take k, l.drop k, (List.take_append_drop k l).symm, by omega, by rw [hg 0 (by omega)]; exact hhead, fun i h1 h2 => ?_, .inr (by rw [hg 0 (by omega)]; exact h0'), hL.symm, fun r' => ?_⟩
      · rw [hlen] at h2
        rw [hg i h2]
        refine decide_eq_true ?_
        rcases (show i = 1 ∨ i = 2 ∨ i = 3 by omega) with rfl | rfl | rfl
        · omega
        · have := k5 (by omega); omega
        · have := k6 (by omega); omega
      · rw [Go.Lib.validD_lead (l.take k ++ r') (by intro h; have h9 := congrArg List.length h; rw [List.length_append, hlen] at h9; have : k + r'.length = 0 := h9; omega) (by rw [hgr r' 0 (by omega)]; exact h0')]
        rw [hgr r' 0 (by omega), hgr r' 1 (by omega), k7 (l.take k ++ r').length ((l.take k ++ r').getD 2 0).toNat ((l.take k ++ r').getD 3 0).toNat (by rw [List.length_append, hlen]; omega) (fun h => by rw [hgr r' 2 (by omega)]) (fun h => by rw [hgr r' 3 (by omega)])]
        simp [hlen]
/-- f is the same for all bytes of one code point -/
def Whole (l : List UInt8) (f : Nat → Bool) : Prop := ∀ i, i + 1 < l.length → cont (l.getD (i + 1) 0) = true → f (i + 1) = f i
theorem red_valid : ∀ (n : Nat) (l : List UInt8) (f : Nat → Bool), l.length ≤ n → Go.Lib.validD l = true → Whole l f → Go.Lib.validD (red f l) = true
  | 0, l, f, hn, _, _ => by
    obtain rfl : l = [] := List.eq_nil_of_length_eq_zero (by omega)
    rfl
  | n + 1, l, f, hn, hv, hw => by
    by_cases hne : l = []
    · subst hne; rfl
    · obtain ⟨c, r, rfl, h1, h2, h3, h4, h5, h6⟩ := chunk hv hne
      have hr : Go.Lib.validD (red (fun i => f (i + c.length)) r) = true := by
        refine red_valid n r _ (by simp at hn; omega) h5 fun i hi hc => ?_
        have := hw (i + c.length) (by simp; omega) (by rw [List.getD_eq_getElem?_getD, List.getElem?_append_right (by omega), show i + c.length + 1 - c.length = i + 1 by omega, ← List.getD_eq_getElem?_getD]; exact hc)
        show f (i + 1 + c.length) = f (i + c.length)
        rw [← this, show i + 1 + c.length = i + c.length + 1 by omega]
      have hf : ∀ i, i < c.length → f i = f 0 := fun i => by
        induction i with
        | zero => intro _; rfl
        | succ i ih =>
          intro hi
          rw [← ih (by omega)]
          refine hw i (by simp; omega) ?_
          have := h3 (i + 1) (by omega) hi
          rwa [List.getD_eq_getElem?_getD, List.getElem?_append_left (by omega), ← List.getD_eq_getElem?_getD]
      rw [red_append]
      cases h0 : f 0
      · rw [red_no f c fun i hi => (hf i hi).trans h0, h6, hr]
      · have hs := red_yes f c fun i hi => (hf i hi).trans h0
        rw [Go.Lib.validD_ascii c.length _ (fun b hb => hs b (by rwa [List.take_append_of_le_length (by rw [red_len]; exact Nat.le_refl _), List.take_of_length_le (by rw [red_len]; exact Nat.le_refl _)] at hb))]
        rw [List.drop_append_of_le_length (by rw [red_len]; exact Nat.le_refl _), List.drop_of_length_le (by rw [red_len]; exact Nat.le_refl _)]
        simpa using hr
/-- behind a byte below 128 no code point goes on -/
theorem lead_high : ∀ (n : Nat) (l : List UInt8), l.length ≤ n → Go.Lib.validD l = true → (∀ i, i + 1 < l.length → cont (l.getD (i + 1) 0) = true → 128 ≤ (l.getD i 0).toNat) ∧ cont (l.getD 0 0) = false
  | 0, l, hn, _ => by
    obtain rfl : l = [] := List.eq_nil_of_length_eq_zero (by omega)
    exact ⟨fun i hi => by simp at hi, rfl⟩
  | n + 1, l, hn, hv => by
    by_cases hne : l = []
    · subst hne; exact ⟨fun i hi => by simp at hi, rfl⟩
    · obtain ⟨c, r, rfl, h1, h2, h3, h4, h5, h6⟩ := chunk hv hne
      obtain ⟨ih1, ih2⟩ := lead_high n r (by simp at hn; omega) h5
      have gl : ∀ i, i < c.length → (c ++ r).getD i 0 = c.getD i 0 := fun i hi => by rw [List.getD_eq_getElem?_getD, List.getElem?_append_left hi, ← List.getD_eq_getElem?_getD]
      have gr : ∀ i, c.length ≤ i → (c ++ r).getD i 0 = r.getD (i - c.length) 0 := fun i hi => by rw [List.getD_eq_getElem?_getD, List.getElem?_append_right hi, ← List.getD_eq_getElem?_getD]
      refine ⟨fun i hi hc => ?_, by rw [gl 0 h1]; exact h2⟩
      by_cases hic : i + 1 < c.length
      · rw [gl i (by omega)]
        by_cases h0 : i = 0
        · subst h0
          rcases h4 with h4 | h4
          · omega
          · exact h4
        · have := of_decide_eq_true (h3 i (by omega) (by omega))
          omega
      · by_cases hie : i + 1 = c.length
        · rw [gr (i + 1) (by omega), show i + 1 - c.length = 0 by omega, ih2] at hc
          cases hc
        · rw [gr (i + 1) (by omega), show i + 1 - c.length = (i - c.length) + 1 by omega] at hc
          rw [gr i (by omega)]
          exact ih1 (i - c.length) (by simp at hi; omega) hc
/-- where the code point of byte i begins -/
def dn (l : List UInt8) : Nat → Nat
  | 0 => 0
  | i + 1 => if cont (l.getD (i + 1) 0) then dn l i else i + 1
/-- where a code point begins from i on -/
def upF (l : List UInt8) : Nat → Nat → Nat
  | 0, i => i
  | n + 1, i => if cont (l.getD i 0) then upF l n (i + 1) else i
def up (l : List UInt8) (i : Nat) : Nat := upF l (l.length - i) i
theorem cont_out {l : List UInt8} {i : Nat} (h : l.length ≤ i) : cont (l.getD i 0) = false := by
  rw [List.getD_eq_getElem?_getD, List.getElem?_eq_none h]; rfl
theorem cont_lt {l : List UInt8} {i : Nat} (h : cont (l.getD i 0) = true) : i < l.length := by
  rcases Nat.lt_or_ge i l.length with h1 | h1
  · exact h1
  · rw [cont_out h1] at h; cases h
theorem dn_le (l : List UInt8) : ∀ i, dn l i ≤ i
  | 0 => Nat.le_refl _
  | i + 1 => by
    unfold dn
    split
    · have := dn_le l i; omega
    · omega
theorem dn_step {l : List UInt8} {i : Nat} (h : cont (l.getD (i + 1) 0) = true) : dn l (i + 1) = dn l i := by simp only [dn]; rw [if_pos h]
theorem dn_stop {l : List UInt8} {i : Nat} (h : cont (l.getD i 0) = false) : dn l i = i := by
  cases i with
  | zero => rfl
  | succ i => simp only [dn]; rw [h]; rfl
theorem dn_mid (l : List UInt8) : ∀ i j, dn l i < j → j ≤ i → cont (l.getD j 0) = true
  | 0, j, h1, h2 => by have : dn l 0 = 0 := rfl; omega
  | i + 1, j, h1, h2 => by
    by_cases hc : cont (l.getD (i + 1) 0) = true
    · rw [dn_step hc] at h1
      by_cases e : j = i + 1
      · rw [e]; exact hc
      · exact dn_mid l i j h1 (by omega)
    · rw [dn_stop (by simpa using hc)] at h1; omega
theorem dn_start (l : List UInt8) : ∀ i, dn l i = 0 ∨ cont (l.getD (dn l i) 0) = false
  | 0 => .inl rfl
  | i + 1 => by
    by_cases hc : cont (l.getD (i + 1) 0) = true
    · rw [dn_step hc]; exact dn_start l i
    · rw [dn_stop (by simpa using hc)]; exact .inr (by simpa using hc)
/-- between two numbers all bytes go on: one code point -/
theorem dn_same (l : List UInt8) : ∀ (d i : Nat), (∀ j, i < j → j ≤ i + d → cont (l.getD j 0) = true) → dn l (i + d) = dn l i
  | 0, i, _ => rfl
  | d + 1, i, h => by
    rw [show i + (d + 1) = (i + d) + 1 by omega, dn_step (h (i + d + 1) (by omega) (by omega)), dn_same l d i fun j h1 h2 => h j h1 (by omega)]
theorem dn_eq_of {l : List UInt8} {i j : Nat} (h1 : dn l j ≤ i) (h2 : i ≤ j) : dn l i = dn l j := by
  have := dn_same l (j - i) i fun k k1 k2 => dn_mid l j k (by omega) (by omega)
  rw [show i + (j - i) = j by omega] at this
  exact this.symm
theorem dn_mono {l : List UInt8} {i j : Nat} (h : i ≤ j) : dn l i ≤ dn l j := by
  by_cases h1 : dn l j ≤ i
  · rw [dn_eq_of h1 h]; exact Nat.le_refl _
  · have := dn_le l i; omega
theorem upF_le (l : List UInt8) : ∀ n i, i ≤ upF l n i ∧ upF l n i ≤ i + n
  | 0, i => ⟨Nat.le_refl _, Nat.le_refl _⟩
  | n + 1, i => by
    unfold upF
    split
    · have := upF_le l n (i + 1); omega
    · omega
theorem upF_mid (l : List UInt8) : ∀ n i j, i ≤ j → j < upF l n i → cont (l.getD j 0) = true
  | 0, i, j, h1, h2 => by simp only [upF] at h2; omega
  | n + 1, i, j, h1, h2 => by
    unfold upF at h2
    split at h2
    · rename_i hc
      by_cases e : j = i
      · rw [e]; exact hc
      · exact upF_mid l n (i + 1) j (by omega) h2
    · omega
theorem upF_stop (l : List UInt8) : ∀ n i, upF l n i = i + n ∨ cont (l.getD (upF l n i) 0) = false
  | 0, i => .inl rfl
  | n + 1, i => by
    unfold upF
    split
    · rcases upF_stop l n (i + 1) with h | h
      · exact .inl (by omega)
      · exact .inr h
    · rename_i hc; exact .inr (by simpa using hc)
theorem up_stop {l : List UInt8} {i : Nat} (h : i ≤ l.length) : cont (l.getD (up l i) 0) = false := by
  rcases upF_stop l (l.length - i) i with h1 | h1
  · unfold up; rw [h1]; exact cont_out (by omega)
  · exact h1
theorem up_le {l : List UInt8} {i : Nat} (h : i ≤ l.length) : i ≤ up l i ∧ up l i ≤ l.length := by
  have := upF_le l (l.length - i) i
  unfold up; omega
theorem up_fix {l : List UInt8} {i : Nat} (h : cont (l.getD i 0) = false) : up l i = i := by
  unfold up
  cases l.length - i with
  | zero => rfl
  | succ n => simp only [upF]; rw [h]; rfl
theorem up_next {l : List UInt8} {i : Nat} (h : cont (l.getD i 0) = true) : up l i = up l (i + 1) := by
  have hlt := cont_lt h
  unfold up
  rw [show l.length - i = (l.length - (i + 1)) + 1 by omega]
  simp only [upF]
  rw [if_pos h]
/-- byte i is covered: one of its code point's bytes is in a span -/
def covd (l : List UInt8) (C : Int → Prop) (i : Nat) : Prop := ∃ k : Nat, C k ∧ k < l.length ∧ dn l k = dn l i
theorem span_covd {l : List UInt8} {p q i : Nat} (hpq : p < q) (hq : q ≤ l.length) : (dn l p ≤ i ∧ i < up l q) ↔ ∃ k, p ≤ k ∧ k < q ∧ dn l k = dn l i := by
  have hu := up_le hq
  constructor
  · rintro ⟨h1, h2⟩
    by_cases a : i < p
    · exact ⟨p, Nat.le_refl _, hpq, (dn_eq_of h1 (by omega)).symm⟩
    · by_cases b : i < q
      · exact ⟨i, by omega, b, rfl⟩
      · refine ⟨q - 1, by omega, by omega, ?_⟩
        have := dn_same l (i - (q - 1)) (q - 1) fun j h3 h4 => upF_mid l (l.length - q) q j (by omega) (by unfold up at h2; omega)
        rw [show q - 1 + (i - (q - 1)) = i by omega] at this
        exact this.symm
  · rintro ⟨k, h1, h2, h3⟩
    have a := dn_mono (l := l) h1
    have b := dn_le l i
    have c := dn_le l k
    refine ⟨by omega, ?_⟩
    by_cases d : i < q
    · omega
    · rcases Nat.lt_or_ge i (up l q) with e | e
      · exact e
      · have hs := up_stop hq
        rw [dn_mid l i (up l q) (by omega) e] at hs
        cases hs
/-- the bytes that are covered -/
noncomputable def covB (l : List UInt8) (C : Int → Prop) (i : Nat) : Bool := @decide (covd l C i) (Classical.propDecidable _)
theorem covB_iff {l : List UInt8} {C : Int → Prop} {i : Nat} : covB l C i = true ↔ covd l C i := by unfold covB; exact @decide_eq_true_iff _ (Classical.propDecidable _)
theorem covd_dn {l : List UInt8} {C : Int → Prop} {i j : Nat} (h : dn l i = dn l j) : covd l C i ↔ covd l C j := by unfold covd; rw [h]
theorem covB_whole (l : List UInt8) (C : Int → Prop) : Whole l (covB l C) := fun i _ hc => by
  have := dn_step hc
  by_cases h : covd l C i
  · rw [covB_iff.2 h, covB_iff.2 ((covd_dn this).2 h)]
  · have h2 : ¬ covd l C (i + 1) := fun h3 => h ((covd_dn this).1 h3)
    rw [Bool.eq_false_iff.2 (fun h3 => h (covB_iff.1 h3)), Bool.eq_false_iff.2 (fun h3 => h2 (covB_iff.1 h3))]
theorem red_getD (f : Nat → Bool) (l : List UInt8) (i : Nat) (h : i < l.length) : (red f l).getD i 0 = if f i then rdc (l.getD i 0) else l.getD i 0 := by
  rw [List.getD_eq_getElem?_getD, red_at, List.getD_eq_getElem?_getD, List.getElem?_eq_getElem h]
  rfl
theorem cont_red (f : Nat → Bool) (l : List UInt8) (i : Nat) : cont ((red f l).getD i 0) = (cont (l.getD i 0) && !f i) := by
  rcases Nat.lt_or_ge i l.length with h | h
  · rw [red_getD f l i h]
    cases f i
    · simp
    · simp [cont_rdc]
  · rw [cont_out h, cont_out (by rw [red_len]; exact h)]; rfl
theorem dn_red {l : List UInt8} {f : Nat → Bool} (hw : Whole l f) : ∀ i, i < l.length → dn (red f l) i = if f i then i else dn l i
  | 0, _ => by show 0 = _; split <;> rfl
  | i + 1, h => by
    by_cases hc : cont (l.getD (i + 1) 0) = true
    · have hf := hw i h hc
      cases hfi : f (i + 1)
      · rw [dn_step (by rw [cont_red, hc, hfi]; rfl), dn_red hw i (by omega), ← hf, hfi, if_neg (by simp), if_neg (by simp), dn_step hc]
      · rw [dn_stop (by rw [cont_red, hfi]; simp)]; rfl
    · have hc' : cont (l.getD (i + 1) 0) = false := by simpa using hc
      rw [dn_stop (by rw [cont_red, hc']; rfl), dn_stop hc']; simp
/-- covering twice is covering both at once -/
theorem red_twice (l : List UInt8) (A B C : Int → Prop) (hC : ∀ i : Nat, C i ↔ A i ∨ B i) : red (covB (red (covB l A) l) B) (red (covB l A) l) = red (covB l C) l := by
  apply List.ext_getElem?
  intro i
  rw [red_at, red_at, red_at]
  rcases Nat.lt_or_ge i l.length with h | h
  · rw [List.getElem?_eq_getElem h]
    simp only [Option.map_some]
    congr 1
    have key : covB l C i = (covB l A i || covB (red (covB l A) l) B i) := by
      rw [Bool.eq_iff_iff, Bool.or_eq_true, covB_iff, covB_iff, covB_iff]
      constructor
      · rintro ⟨k, h1, h2, h3⟩
        by_cases ha : covd l A i
        · exact .inl ha
        · rcases (hC k).1 h1 with h4 | h4
          · exact absurd ⟨k, h4, h2, h3⟩ ha
          · refine .inr ⟨k, h4, by rw [red_len]; exact h2, ?_⟩
            have hk : covB l A k = false := Bool.eq_false_iff.2 fun h5 => ha ((covd_dn h3).1 (covB_iff.1 h5))
            have hi : covB l A i = false := Bool.eq_false_iff.2 fun h5 => ha (covB_iff.1 h5)
            rw [dn_red (covB_whole l A) k h2, dn_red (covB_whole l A) i h, hk, hi]
            simpa using h3
      · rintro (⟨k, h1, h2, h3⟩ | ⟨k, h1, h2, h3⟩)
        · exact ⟨k, (hC k).2 (.inl h1), h2, h3⟩
        · rw [red_len] at h2
          rw [dn_red (covB_whole l A) k h2, dn_red (covB_whole l A) i h] at h3
          cases hk : covB l A k
          · cases hi : covB l A i
            · rw [hk, hi] at h3
              exact ⟨k, (hC k).2 (.inr h1), h2, by simpa using h3⟩
            · obtain ⟨j, j1, j2, j3⟩ := covB_iff.1 hi
              exact ⟨j, (hC j).2 (.inl j1), j2, j3⟩
          · cases hi : covB l A i
            · rw [hk, hi] at h3
              have h4 : k = dn l i := by simpa using h3
              have h5 : dn l k = dn l i := by rw [h4]; exact dn_eq_of (i := dn l i) (Nat.le_refl _) (dn_le l i)
              have := (covd_dn h5).1 (covB_iff.1 hk)
              rw [covB_iff.2 this] at hi; cases hi
            · obtain ⟨j, j1, j2, j3⟩ := covB_iff.1 hi
              exact ⟨j, (hC j).2 (.inl j1), j2, j3⟩
    rw [key]
    cases covB l A i <;> cases covB (red (covB l A) l) B i <;> simp [rdc_twice]
  · rw [List.getElem?_eq_none h]; rfl
end PT
