/- The order of strings as lists of bytes. Plain mathematics. -/
import Derived.KernelRfl
import Derived.Lib.Bytealg
namespace Go.Proofs.YtplocijdbadcjaaGreatDoor.LX
theorem less_eq : ∀ (x y : List UInt8), Op.bytesLess x y = decide (x < y)
  | [], [] => by simp [Op.bytesLess]
  | _ :: _, [] => by simp [Op.bytesLess]
  | [], _ :: _ => by simp [Op.bytesLess]
  | a :: x, b :: y => by
    rw [Op.bytesLess, less_eq x y]
    simp only [List.cons_lt_cons_iff]
    by_cases h1 : a < b <;> by_cases h2 : a = b <;> by_cases h3 : x < y <;> simp [h1, h2, h3]
theorem tri : ∀ (a b : List UInt8), a < b ∨ a = b ∨ b < a
  | [], [] => .inr (.inl rfl)
  | [], _ :: _ => .inl (List.nil_lt_cons _ _)
  | _ :: _, [] => .inr (.inr (List.nil_lt_cons _ _))
  | a :: as, b :: bs => by
    simp only [List.cons_lt_cons_iff]
    by_cases h1 : a < b
    · exact .inl (.inl h1)
    · by_cases h2 : b < a
      · exact .inr (.inr (.inl h2))
      · have e : a = b := by
          apply UInt8.toNat_inj.1
          have h1 := mt UInt8.lt_iff_toNat_lt.2 h1
          have h2 := mt UInt8.lt_iff_toNat_lt.2 h2
          omega
        subst e
        rcases tri as bs with h | h | h
        · exact .inl (.inr ⟨rfl, h⟩)
        · exact .inr (.inl (by rw [h]))
        · exact .inr (.inr (.inr ⟨rfl, h⟩))
theorem u8_irrefl (a : UInt8) : ¬ a < a := fun h => by have := UInt8.lt_iff_toNat_lt.1 h; omega
theorem irrefl : ∀ (a : List UInt8), ¬ a < a
  | [], h => by cases h
  | a :: as, h => by
    rcases List.cons_lt_cons_iff.1 h with h | ⟨_, h⟩
    · exact u8_irrefl a h
    · exact irrefl as h
theorem trans : ∀ {a b c : List UInt8}, a < b → b < c → a < c
  | [], _, [], _, h2 => by exact absurd h2 (List.not_lt_nil _)
  | [], _, _ :: _, _, _ => List.nil_lt_cons _ _
  | a :: as, [], _, h1, _ => absurd h1 (List.not_lt_nil _)
  | a :: as, b :: bs, [], _, h2 => absurd h2 (List.not_lt_nil _)
  | a :: as, b :: bs, c :: cs, h1, h2 => by
    rw [List.cons_lt_cons_iff] at h1 h2 ⊢
    rcases h1 with h1 | ⟨rfl, h1⟩
    · rcases h2 with h2 | ⟨rfl, h2⟩
      · exact .inl (UInt8.lt_iff_toNat_lt.2 (Nat.lt_trans (UInt8.lt_iff_toNat_lt.1 h1) (UInt8.lt_iff_toNat_lt.1 h2)))
      · exact .inl h1
    · rcases h2 with h2 | ⟨rfl, h2⟩
      · exact .inl h2
      · exact .inr ⟨rfl, trans h1 h2⟩
theorem asymm {a b : List UInt8} (h : a < b) : ¬ b < a := fun h2 => irrefl a (trans h h2)
theorem ne {a b : List UInt8} (h : a < b) : a ≠ b := fun e => by subst e; exact irrefl a h
theorem compare_eq : ∀ (a b : List UInt8), Lib.compareBytes a b = if a < b then -1 else if b < a then 1 else 0
  | [], [] => by simp [Lib.compareBytes]
  | [], _ :: _ => by simp [Lib.compareBytes]
  | _ :: _, [] => by simp [Lib.compareBytes]
  | a :: as, b :: bs => by
    unfold Lib.compareBytes
    rw [compare_eq as bs]
    simp only [List.cons_lt_cons_iff]
    by_cases h1 : a < b
    · simp [h1]
    · by_cases h2 : b < a
      · have hne : ¬ a = b := by rintro rfl; exact h1 h2
        simp [h1, h2, hne]
      · have e : a = b := by
          apply UInt8.toNat_inj.1
          have h1 := mt UInt8.lt_iff_toNat_lt.2 h1
          have h2 := mt UInt8.lt_iff_toNat_lt.2 h2
          omega
        subst e
        simp [h1]
theorem compare_neg (a b : List UInt8) : Lib.compareBytes a b < 0 ↔ a < b := by
  rw [compare_eq]
  by_cases h : a < b
  · simp [h]
  · by_cases h2 : b < a <;> simp [h, h2]
theorem compare_zero (a b : List UInt8) : Lib.compareBytes a b = 0 ↔ a = b := by
  rw [compare_eq]
  by_cases h : a < b
  · simp [h, ne h]
  · by_cases h2 : b < a
    · simp [h, h2, (ne h2).symm]
    · simp [h, h2]
      rcases tri a b with h3 | h3 | h3
      · exact absurd h3 h
      · exact h3
      · exact absurd h3 h2
theorem compare_le (a b : List UInt8) : -1 ≤ Lib.compareBytes a b ∧ Lib.compareBytes a b ≤ 1 := by
  rw [compare_eq]
  by_cases h : a < b <;> by_cases h2 : b < a <;> simp [h, h2]
end Go.Proofs.YtplocijdbadcjaaGreatDoor.LX
