/- The words that are not covered: plain mathematics. -/
import Derived.Test.YtdmgfkgfcofmhaaDoorTcM
import Derived.Test.YtdmgfkgfcofmhaaDoorBits
namespace WM
theorem words_empty {s : ByteArray} (h : s.size = 0) : words s = [] := by
  rw [List.eq_nil_iff_forall_not_mem]
  intro x hx
  obtain ⟨y, hy, -⟩ := (words_iff s x).1 hx
  have h1 := hy.1
  have h2 := hy.2.1
  rw [← Go.Lib.size_eq, h] at h2
  omega
/-- the words between spans, from f on -/
def seenW (s : ByteArray) (f : Int) : List (Int × Int) → List ByteArray
  | [] => words (s.extract f.toNat s.size)
  | x :: L => words (s.extract f.toNat x.1.toNat) ++ seenW s x.2 L
/-- what lies between spans, from f on -/
def gaps (n f : Int) : List (Int × Int) → List (Int × Int)
  | [] => if f < n then [(f, n)] else []
  | x :: L => (if f < x.1 then [(f, x.1)] else []) ++ gaps n x.2 L
theorem seen_gaps (s : ByteArray) : ∀ (L : List (Int × Int)) (f : Int), 0 ≤ f → f ≤ s.size → sep L → (∀ x, x ∈ L → f ≤ x.1 ∧ x.2 ≤ s.size) → seenW s f L = hid s (gaps s.size f L)
  | [], f, h0, hn, _, _ => by
    unfold seenW gaps hid
    split
    · simp
    · rw [words_empty (by rw [ByteArray.size_extract]; omega)]; rfl
  | x :: L, f, h0, hn, hs, hb => by
    have h1 := hb x List.mem_cons_self
    have ih := seen_gaps s L x.2 (by have := hs.1; omega) h1.2 hs.2.2 fun t ht => ⟨Int.le_of_lt (hs.2.1 t ht), (hb t (List.mem_cons_of_mem _ ht)).2⟩
    have e : seenW s f (x :: L) = words (s.extract f.toNat x.1.toNat) ++ seenW s x.2 L := rfl
    have e2 : gaps s.size f (x :: L) = (if f < x.1 then [(f, x.1)] else []) ++ gaps s.size x.2 L := rfl
    rw [e, e2, ih]
    unfold hid
    rw [List.flatMap_append]
    congr 1
    split
    · simp
    · rw [words_empty (by rw [ByteArray.size_extract]; omega)]; rfl
theorem gaps_right (n : Int) : ∀ (L : List (Int × Int)) (f : Int), f ≤ n → sep L → (∀ x, x ∈ L → f ≤ x.1 ∧ x.2 ≤ n) → sep (gaps n f L) ∧ (∀ t, t ∈ gaps n f L → f ≤ t.1) ∧ ∀ i, cov (gaps n f L) i ↔ (f ≤ i ∧ i < n ∧ ¬ cov L i)
  | [], f, hn, _, _ => by
    unfold gaps
    split
    · rename_i h
      refine ⟨⟨h, (fun t ht => by cases ht), trivial⟩, fun t ht => by rw [List.mem_singleton.1 ht]; exact Int.le_refl _, fun i => ?_⟩
      rw [cov_one]
      exact ⟨fun h => ⟨h.1, h.2, cov_nil i⟩, fun h => ⟨h.1, h.2.1⟩⟩
    · exact ⟨trivial, (fun t ht => by cases ht), fun i => ⟨fun h => absurd h (cov_nil i), fun h => by omega⟩⟩
  | x :: L, f, hn, hs, hb => by
    have h1 := hb x List.mem_cons_self
    have h2 := hs.1
    obtain ⟨i1, i2, i3⟩ := gaps_right n L x.2 h1.2 hs.2.2 fun t ht => ⟨Int.le_of_lt (hs.2.1 t ht), (hb t (List.mem_cons_of_mem _ ht)).2⟩
    have e2 : gaps n f (x :: L) = (if f < x.1 then [(f, x.1)] else []) ++ gaps n x.2 L := rfl
    rw [e2]
    have hL : ∀ i, cov L i → x.2 < i := fun i ⟨t, ht, a, b⟩ => by have := hs.2.1 t ht; omega
    split
    · rename_i hf
      refine ⟨⟨hf, fun t ht => by have := i2 t ht; dsimp only; omega, i1⟩, fun t ht => ?_, fun i => ?_⟩
      · rcases List.mem_cons.1 ht with rfl | ht
        · exact Int.le_refl _
        · have := i2 t ht; omega
      · rw [List.singleton_append, cov_cons, cov_cons, i3]
        dsimp only
        constructor
        · rintro (h | ⟨h, h3, h4⟩)
          · exact ⟨h.1, by omega, fun h5 => h5.elim (by omega) (fun h6 => by have := hL i h6; omega)⟩
          · exact ⟨by omega, h3, fun h5 => h5.elim (by omega) h4⟩
        · rintro ⟨h, h3, h4⟩
          by_cases h5 : i < x.1
          · exact .inl ⟨h, h5⟩
          · by_cases h6 : i < x.2
            · exact absurd (.inl ⟨by omega, h6⟩) h4
            · exact .inr ⟨by omega, h3, fun h7 => h4 (.inr h7)⟩
    · rename_i hf
      refine ⟨i1, fun t ht => by have := i2 t ht; omega, fun i => ?_⟩
      rw [List.nil_append, cov_cons, i3]
      constructor
      · rintro ⟨h, h3, h4⟩
        exact ⟨by omega, h3, fun h5 => h5.elim (by omega) h4⟩
      · rintro ⟨h, h3, h4⟩
        have h6 : ¬ i < x.2 := fun h6 => h4 (.inl ⟨by omega, h6⟩)
        exact ⟨by omega, h3, fun h7 => h4 (.inr h7)⟩
/-- the two ways to the words that are not covered -/
theorem seen_same {s : ByteArray} {N M : List (Int × Int)} {p : Nat → Bool} (hN : sep N) (hb : ∀ x, x ∈ N → 0 ≤ x.1 ∧ x.2 ≤ s.size) (hM : Ran p s.size M) (hp : ∀ i : Nat, i < s.size → (p i = true ↔ ¬ cov N i)) : seenW s 0 N = hid s M := by
  rw [seen_gaps s N 0 (Int.le_refl _) (by omega) hN hb]
  obtain ⟨h1, -, h3⟩ := gaps_right s.size N 0 (by omega) hN hb
  rw [sep_uniq h1 hM.sep fun i => ?_]
  rw [h3, hM.cov]
  constructor
  · rintro ⟨a, b, c⟩
    obtain ⟨k, rfl⟩ := Int.eq_ofNat_of_zero_le a
    exact ⟨k, rfl, by omega, (hp k (by omega)).2 c⟩
  · rintro ⟨k, rfl, hk, c⟩
    exact ⟨by omega, by omega, (hp k hk).1 c⟩
end WM
