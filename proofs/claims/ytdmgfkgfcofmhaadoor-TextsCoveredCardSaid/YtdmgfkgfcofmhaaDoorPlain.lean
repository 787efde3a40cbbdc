/- Texts put together. -/
import Derived.Lib.ValidLaws
import Derived.Lib.FieldsP
import Derived.Lib.MapLaws
import Derived.Lib.SplitLaws
/- Spans: which bytes they have; right ones are told apart by their bytes. -/
namespace WM
/-- number i is in a span of the list -/
def cov (L : List (Int × Int)) (i : Int) : Prop := ∃ s, s ∈ L ∧ s.1 ≤ i ∧ i < s.2
/-- right spans: none is empty, and each ends before the next one begins -/
def sep : List (Int × Int) → Prop
  | [] => True
  | s :: L => s.1 < s.2 ∧ (∀ t, t ∈ L → s.2 < t.1) ∧ sep L
theorem cov_nil (i : Int) : ¬ cov [] i := fun ⟨_, h, _⟩ => by cases h
theorem cov_cons (s : Int × Int) (L : List (Int × Int)) (i : Int) : cov (s :: L) i ↔ (s.1 ≤ i ∧ i < s.2) ∨ cov L i := by
  constructor
  · rintro ⟨t, ht, h⟩
    rcases List.mem_cons.1 ht with rfl | ht
    · exact .inl h
    · exact .inr ⟨t, ht, h⟩
  · rintro (h | ⟨t, ht, h⟩)
    · exact ⟨s, List.mem_cons_self, h⟩
    · exact ⟨t, List.mem_cons_of_mem _ ht, h⟩
theorem cov_append (K L : List (Int × Int)) (i : Int) : cov (K ++ L) i ↔ cov K i ∨ cov L i := by
  constructor
  · rintro ⟨t, ht, h⟩
    rcases List.mem_append.1 ht with ht | ht
    · exact .inl ⟨t, ht, h⟩
    · exact .inr ⟨t, ht, h⟩
  · rintro (⟨t, ht, h⟩ | ⟨t, ht, h⟩)
    · exact ⟨t, List.mem_append_left _ ht, h⟩
    · exact ⟨t, List.mem_append_right _ ht, h⟩
theorem cov_one (s : Int × Int) (i : Int) : cov [s] i ↔ (s.1 ≤ i ∧ i < s.2) := by
  rw [cov_cons]
  exact ⟨fun h => h.resolve_right (cov_nil i), .inl⟩
theorem cov_mem {L : List (Int × Int)} {s : Int × Int} (h : s ∈ L) {i : Int} (h1 : s.1 ≤ i) (h2 : i < s.2) : cov L i := ⟨s, h, h1, h2⟩
theorem sep_ne : ∀ {L : List (Int × Int)}, sep L → ∀ s, s ∈ L → s.1 < s.2
  | s :: L, h, t, ht => by
    rcases List.mem_cons.1 ht with rfl | ht
    · exact h.1
    · exact sep_ne h.2.2 t ht
theorem sep_snoc : ∀ {L : List (Int × Int)} {s : Int × Int}, sep L → s.1 < s.2 → (∀ t, t ∈ L → t.2 < s.1) → sep (L ++ [s])
  | [], s, _, h1, _ => ⟨h1, (fun t ht => by cases ht), trivial⟩
  | t :: L, s, h, h1, h2 => ⟨h.1, fun u hu => by
      rcases List.mem_append.1 hu with hu | hu
      · exact h.2.1 u hu
      · rw [List.mem_singleton.1 hu]; exact h2 t List.mem_cons_self, sep_snoc h.2.2 h1 fun u hu => h2 u (List.mem_cons_of_mem _ hu)⟩
theorem sep_left : ∀ {K L : List (Int × Int)}, sep (K ++ L) → sep K
  | [], _, _ => trivial
  | _ :: _, _, h => ⟨h.1, fun t ht => h.2.1 t (List.mem_append_left _ ht), sep_left h.2.2⟩
theorem sep_right : ∀ {K L : List (Int × Int)}, sep (K ++ L) → sep L
  | [], _, h => h
  | _ :: K, _, h => sep_right (K := K) h.2.2
theorem sep_last : ∀ {K : List (Int × Int)} {s : Int × Int}, sep (K ++ [s]) → s.1 < s.2 ∧ ∀ t, t ∈ K → t.2 < s.1
  | [], s, h => ⟨h.1, fun t ht => by cases ht⟩
  | u :: K, s, h => by
    have ih := sep_last (K := K) h.2.2
    refine ⟨ih.1, fun t ht => ?_⟩
    rcases List.mem_cons.1 ht with rfl | ht
    · exact h.2.1 s (by simp)
    · exact ih.2 t ht
theorem sep_mid {K L : List (Int × Int)} {s : Int × Int} (h : sep (K ++ s :: L)) : s.1 < s.2 ∧ (∀ t, t ∈ K → t.2 < s.1) ∧ (∀ t, t ∈ L → s.2 < t.1) := by
  have h1 : sep ((K ++ [s]) ++ L) := by simpa using h
  have h2 := sep_last (sep_left h1)
  exact ⟨h2.1, h2.2, (sep_right h).2.1⟩
theorem sep_uniq : ∀ {L M : List (Int × Int)}, sep L → sep M → (∀ i, cov L i ↔ cov M i) → L = M
  | [], [], _, _, _ => rfl
  | [], m :: M, _, hM, h => absurd ((h m.1).2 ((cov_cons _ _ _).2 (.inl ⟨Int.le_refl _, hM.1⟩))) (cov_nil _)
  | l :: L, [], hL, _, h => absurd ((h l.1).1 ((cov_cons _ _ _).2 (.inl ⟨Int.le_refl _, hL.1⟩))) (cov_nil _)
  | l :: L, m :: M, hL, hM, h => by
    have lo : ∀ {s : Int × Int} {K : List (Int × Int)}, sep (s :: K) → ∀ i, cov (s :: K) i → s.1 ≤ i := fun {s K} hK i hi => by
      rcases (cov_cons _ _ _).1 hi with hi | ⟨t, ht, hi⟩
      · exact hi.1
      · have := hK.1; have := hK.2.1 t ht; omega
    have gap : ∀ {s : Int × Int} {K : List (Int × Int)}, sep (s :: K) → ¬ cov (s :: K) s.2 := fun {s K} hK hi => by
      rcases (cov_cons _ _ _).1 hi with hi | ⟨t, ht, hi⟩
      · omega
      · have := hK.2.1 t ht; omega
    have e1 : m.1 ≤ l.1 := lo hM _ ((h l.1).1 ((cov_cons _ _ _).2 (.inl ⟨Int.le_refl _, hL.1⟩)))
    have e2 : l.1 ≤ m.1 := lo hL _ ((h m.1).2 ((cov_cons _ _ _).2 (.inl ⟨Int.le_refl _, hM.1⟩)))
    have g1 : ¬ (m.1 ≤ l.2 ∧ l.2 < m.2) := fun g => gap hL ((h l.2).2 ((cov_cons _ _ _).2 (.inl g)))
    have g2 : ¬ (l.1 ≤ m.2 ∧ m.2 < l.2) := fun g => gap hM ((h m.2).1 ((cov_cons _ _ _).2 (.inl g)))
    have hl := hL.1
    have hm := hM.1
    obtain ⟨l1, l2⟩ := l
    obtain ⟨m1, m2⟩ := m
    dsimp only at e1 e2 g1 g2 hl hm
    obtain rfl : l1 = m1 := by omega
    obtain rfl : l2 = m2 := by omega
    have tail : ∀ {A B : List (Int × Int)}, sep ((l1, l2) :: A) → (∀ i, cov ((l1, l2) :: A) i → cov ((l1, l2) :: B) i) → ∀ i, cov A i → cov B i := fun {A B} hA hi i hc => by
      obtain ⟨t, ht, hc1, hc2⟩ := id hc
      have := hA.2.1 t ht
      rcases (cov_cons _ _ _).1 (hi i ((cov_cons _ _ _).2 (.inr hc))) with h3 | h3
      · dsimp only at *; omega
      · exact h3
    rw [sep_uniq hL.2.2 hM.2.2 fun i => ⟨tail hL (fun j => (h j).1) i, tail hM (fun j => (h j).2) i⟩]
/-- the last span is made longer, up to q -/
theorem sep_stretch {K : List (Int × Int)} {p q q' : Int} (h : sep (K ++ [(p, q)])) (hq : q ≤ q') : sep (K ++ [(p, q')]) := by
  have hl := sep_last h
  dsimp only at hl
  exact sep_snoc (sep_left h) (by dsimp only; omega) hl.2
theorem cov_stretch {K : List (Int × Int)} {p q : Int} (i : Int) : cov (K ++ [(p, q)]) i ↔ cov K i ∨ (p ≤ i ∧ i < q) := by
  rw [cov_append, cov_one]

/-- the spans of a list, put together in their order: what lies in the first n of them -/
structure Tog (S A : List (Int × Int)) : Prop where
  sep : sep A
  cov : ∀ i, cov A i ↔ cov S i
  from_ : ∀ t, t ∈ A → ∃ s, s ∈ S ∧ s.1 = t.1
  len : A.length ≤ S.length
theorem Tog.start : Tog [] [] := ⟨trivial, fun _ => Iff.rfl, (fun t ht => by cases ht), Nat.le_refl _⟩
theorem Tog.new {S A : List (Int × Int)} {s : Int × Int} (h : Tog S A) (hs : s.1 < s.2) (hA : ∀ t, t ∈ A → t.2 < s.1) : Tog (S ++ [s]) (A ++ [s]) :=
  ⟨sep_snoc h.sep hs hA, fun i => by rw [cov_append, cov_append, h.cov], fun t ht => by
    rcases List.mem_append.1 ht with ht | ht
    · obtain ⟨u, hu, e⟩ := h.from_ t ht
      exact ⟨u, List.mem_append_left _ hu, e⟩
    · exact ⟨s, List.mem_append_right _ (by simp), by rw [List.mem_singleton.1 ht]⟩, by simp; exact h.len⟩
theorem Tog.join {S K : List (Int × Int)} {p q : Int} {s : Int × Int} (h : Tog S (K ++ [(p, q)])) (h1 : s.1 ≤ q) (h2 : ∀ t, t ∈ S → t.1 ≤ s.1) : Tog (S ++ [s]) (K ++ [(p, max q s.2)]) :=
  ⟨sep_stretch h.sep (by omega), fun i => by
    obtain ⟨u, hu, e⟩ := h.from_ (p, q) (by simp)
    have h3 := h2 u hu
    dsimp only at e
    have h4 := (sep_last h.sep).1
    dsimp only at h4
    rw [cov_stretch, cov_append, ← h.cov, cov_stretch, cov_one]
    constructor
    · rintro (h5 | h5)
      · exact .inl (.inl h5)
      · by_cases h6 : i < q
        · exact .inl (.inr ⟨h5.1, h6⟩)
        · exact .inr ⟨by omega, by omega⟩
    · rintro ((h5 | h5) | h5)
      · exact .inl h5
      · exact .inr ⟨h5.1, by omega⟩
      · exact .inr ⟨by omega, by omega⟩, fun t ht => by
    rcases List.mem_append.1 ht with ht | ht
    · obtain ⟨u, hu, e⟩ := h.from_ t (List.mem_append_left _ ht)
      exact ⟨u, List.mem_append_left _ hu, e⟩
    · obtain ⟨u, hu, e⟩ := h.from_ (p, q) (by simp)
      exact ⟨u, List.mem_append_left _ hu, by rw [List.mem_singleton.1 ht]; exact e⟩, by have := h.len; simp at this ⊢; omega⟩

/-- the bytes of the first n that have p, as spans -/
structure Ran (p : Nat → Bool) (n : Nat) (A : List (Int × Int)) : Prop where
  sep : sep A
  cov : ∀ i, cov A i ↔ ∃ k : Nat, i = k ∧ k < n ∧ p k = true
  end_ : ∀ t, t ∈ A → t.2 ≤ n
theorem Ran.start (p : Nat → Bool) : Ran p 0 [] := ⟨trivial, fun i => ⟨fun h => absurd h (cov_nil _), fun ⟨k, _, h, _⟩ => by omega⟩, fun t ht => by cases ht⟩
theorem Ran.off {p : Nat → Bool} {n : Nat} {A : List (Int × Int)} (h : Ran p n A) (hp : p n = false) : Ran p (n + 1) A :=
  ⟨h.sep, fun i => by
    rw [h.cov]
    constructor
    · rintro ⟨k, e, hk, hq⟩; exact ⟨k, e, by omega, hq⟩
    · rintro ⟨k, e, hk, hq⟩
      have : k ≠ n := fun e => by rw [e, hp] at hq; cases hq
      exact ⟨k, e, by omega, hq⟩, fun t ht => by have := h.end_ t ht; omega⟩
theorem Ran.new {p : Nat → Bool} {n : Nat} {A : List (Int × Int)} (h : Ran p n A) (hp : p n = true) (hb : n = 0 ∨ p (n - 1) = false) : Ran p (n + 1) (A ++ [((n : Int), (n : Int) + 1)]) :=
  ⟨sep_snoc h.sep (by dsimp only; omega) (fun t ht => by
    have h1 := h.end_ t ht
    have h2 := sep_ne h.sep t ht
    dsimp only
    rcases hb with rfl | hb
    · have h4 := (h.cov t.1).1 (cov_mem ht (Int.le_refl _) h2)
      obtain ⟨k, _, hk, _⟩ := h4
      omega
    · rcases Int.lt_or_le t.2 n with h3 | h3
      · exact h3
      · obtain ⟨k, e, hk, hq⟩ := (h.cov (t.2 - 1)).1 (cov_mem ht (by omega) (by omega))
        obtain rfl : k = n - 1 := by omega
        rw [hb] at hq; cases hq), fun i => by
    rw [cov_append, cov_one, h.cov]
    constructor
    · rintro (⟨k, e, hk, hq⟩ | ⟨h1, h2⟩)
      · exact ⟨k, e, by omega, hq⟩
      · exact ⟨n, by dsimp only at h1 h2; omega, by omega, hp⟩
    · rintro ⟨k, e, hk, hq⟩
      by_cases e2 : k = n
      · exact .inr (by dsimp only; omega)
      · exact .inl ⟨k, e, by omega, hq⟩, fun t ht => by
    rcases List.mem_append.1 ht with ht | ht
    · have := h.end_ t ht; omega
    · rw [List.mem_singleton.1 ht]; dsimp only; omega⟩
theorem Ran.more {p : Nat → Bool} {n : Nat} {A : List (Int × Int)} (h : Ran p n A) (hp : p n = true) (hb : p (n - 1) = true) (h0 : n ≠ 0) : ∃ K q, A = K ++ [(q, (n : Int))] ∧ Ran p (n + 1) (K ++ [(q, (n : Int) + 1)]) := by
  have hc := (h.cov (n - 1 : Nat)).2 ⟨n - 1, rfl, by omega, hb⟩
  rcases List.eq_nil_or_concat A with rfl | ⟨K, ⟨q, z⟩, rfl⟩
  · exact absurd hc (cov_nil _)
  · rw [List.concat_eq_append] at *
    have hl := sep_last h.sep
    have he := h.end_ (q, z) (by simp)
    dsimp only at hl he
    obtain ⟨t, ht, h1, h2⟩ := hc
    have hz : z = n := by
      rcases List.mem_append.1 ht with ht | ht
      · have h4 := hl.2 t ht
        have h5 := h.cov (z - 1)
        omega
      · obtain rfl := List.mem_singleton.1 ht
        dsimp only at h1 h2
        omega
    subst hz
    refine ⟨K, q, rfl, sep_stretch h.sep (by omega), fun i => ?_, fun t ht => ?_⟩
    · rw [cov_stretch]
      have h6 := h.cov i
      rw [cov_stretch] at h6
      constructor
      · rintro (h7 | h7)
        · obtain ⟨k, e, hk, hq⟩ := h6.1 (.inl h7)
          exact ⟨k, e, by omega, hq⟩
        · by_cases h8 : i < n
          · obtain ⟨k, e, hk, hq⟩ := h6.1 (.inr ⟨h7.1, h8⟩)
            exact ⟨k, e, by omega, hq⟩
          · exact ⟨n, by omega, by omega, hp⟩
      · rintro ⟨k, e, hk, hq⟩
        by_cases e2 : k = n
        · exact .inr ⟨by omega, by omega⟩
        · rcases h6.2 ⟨k, e, by omega, hq⟩ with h7 | h7
          · exact .inl h7
          · exact .inr ⟨h7.1, by omega⟩
    · rcases List.mem_append.1 ht with ht | ht
      · have := h.end_ t (List.mem_append_left _ ht); omega
      · rw [List.mem_singleton.1 ht]; dsimp only; omega

/-- the bytes of the spans S that none of B has -/
structure WoD (S B A : List (Int × Int)) : Prop where
  sep : sep A
  cov : ∀ i, cov A i ↔ cov S i ∧ ¬ cov B i
  end_ : ∀ t, t ∈ A → ∃ s, s ∈ S ∧ t.2 ≤ s.2
  len : A.length ≤ S.length * (B.length + 1)
theorem WoD.start (B : List (Int × Int)) : WoD [] B [] := ⟨trivial, fun i => ⟨fun h => absurd h (cov_nil _), fun h => absurd h.1 (cov_nil _)⟩, (fun t ht => by cases ht), by simp⟩
/-- .. how far it has come in the span s: f, T of B looked at -/
structure Wo (S B T : List (Int × Int)) (s : Int × Int) (f : Int) (A : List (Int × Int)) : Prop where
  sep : sep A
  cov : ∀ i, cov A i ↔ (cov S i ∧ ¬ cov B i) ∨ (s.1 ≤ i ∧ i < s.2 ∧ i < f ∧ ¬ cov T i)
  from_ : ∀ t, t ∈ A → t.2 < f
  seen : ∀ t, t ∈ T → t.2 ≤ f ∨ s.2 ≤ t.1
  at_ : s.1 ≤ f
  end_ : ∀ t, t ∈ A → t.2 ≤ s.2
  lo : f = s.1 ∨ ∃ u, u ∈ T ∧ u.2 = f
  len : A.length ≤ S.length * (B.length + 1) + T.length
theorem Wo.start {S B A : List (Int × Int)} {s : Int × Int} (h : WoD S B A) (hs : s.1 < s.2) (hS : ∀ t, t ∈ S → t.2 < s.1) : Wo S B [] s s.1 A :=
  ⟨h.sep, fun i => by
    rw [h.cov]
    exact ⟨.inl, fun h => h.resolve_right (by omega)⟩, fun t ht => by
    obtain ⟨u, hu, h1⟩ := h.end_ t ht
    have := hS u hu; omega, (fun t ht => by cases ht), Int.le_refl _, fun t ht => by
    obtain ⟨u, hu, h1⟩ := h.end_ t ht
    have := hS u hu; omega, .inl rfl, by have := h.len; simp; omega⟩
theorem Wo.skip {S B T A : List (Int × Int)} {s t : Int × Int} {f : Int} (h : Wo S B T s f A) (ht : t.2 ≤ f ∨ s.2 ≤ t.1) (hT : ∀ u, u ∈ T → u.2 < t.1) (htn : t.1 < t.2) : Wo S B (T ++ [t]) s f A :=
  ⟨h.sep, fun i => by
    rw [h.cov]
    have hn : s.1 ≤ i → i < s.2 → i < f → ¬ (t.1 ≤ i ∧ i < t.2) := fun h1 h2 h3 h4 => by
      rcases ht with ht | ht
      · rcases h.lo with hlo | ⟨u, hu, e⟩
        · omega
        · have := hT u hu; omega
      · omega
    constructor
    · rintro (h1 | ⟨h1, h2, h3, h4⟩)
      · exact .inl h1
      · exact .inr ⟨h1, h2, h3, fun h5 => by
          rcases (cov_append _ _ _).1 h5 with h5 | h5
          · exact h4 h5
          · exact hn h1 h2 h3 ((cov_one _ _).1 h5)⟩
    · rintro (h1 | ⟨h1, h2, h3, h4⟩)
      · exact .inl h1
      · exact .inr ⟨h1, h2, h3, fun h5 => h4 ((cov_append _ _ _).2 (.inl h5))⟩, h.from_, (fun u hu => by
    rcases List.mem_append.1 hu with hu | hu
    · exact h.seen u hu
    · rw [List.mem_singleton.1 hu]; exact ht), h.at_, h.end_, by
    rcases h.lo with h1 | ⟨u, hu, e⟩
    · exact .inl h1
    · exact .inr ⟨u, List.mem_append_left _ hu, e⟩, by have := h.len; simp; omega⟩
theorem Wo.jump {S B T A : List (Int × Int)} {s t : Int × Int} {f : Int} (h : Wo S B T s f A) (h1 : f < t.2) (h2 : t.1 ≤ f) (_h3 : t.1 < s.2) (hT : ∀ u, u ∈ T → u.2 < t.1) : Wo S B (T ++ [t]) s t.2 A := by
  have hf : f = s.1 := by
    rcases h.lo with h4 | ⟨u, hu, e⟩
    · exact h4
    · have := hT u hu; omega
  refine ⟨h.sep, fun i => ?_, fun u hu => by have := h.from_ u hu; omega, fun u hu => ?_, by have := h.at_; omega, h.end_, .inr ⟨t, by simp, rfl⟩, by have := h.len; simp; omega⟩
  · rw [h.cov]
    constructor
    · rintro (h4 | ⟨h4, h5, h6, h7⟩)
      · exact .inl h4
      · omega
    · rintro (h4 | ⟨h4, h5, h6, h7⟩)
      · exact .inl h4
      · exact absurd ((cov_append _ _ _).2 (.inr ((cov_one _ _).2 ⟨by omega, h6⟩))) h7
  · rcases List.mem_append.1 hu with hu | hu
    · rcases h.seen u hu with h4 | h4
      · exact .inl (by omega)
      · exact .inr h4
    · rw [List.mem_singleton.1 hu]; exact .inl (Int.le_refl _)
theorem Wo.cut {S B T A : List (Int × Int)} {s t : Int × Int} {f : Int} (h : Wo S B T s f A) (h1 : f < t.1) (h2 : t.1 < t.2) (h3 : t.1 < s.2) : Wo S B (T ++ [t]) s t.2 (A ++ [(f, t.1)]) := by
  refine ⟨sep_snoc h.sep h1 h.from_, fun i => ?_, fun u hu => ?_, fun u hu => ?_, by have := h.at_; omega, fun u hu => ?_, .inr ⟨t, by simp, rfl⟩, by have := h.len; simp; omega⟩
  · have hat := h.at_
    rw [cov_append, cov_one, h.cov]
    constructor
    · rintro ((h4 | ⟨h4, h5, h6, h7⟩) | ⟨h4, h5⟩)
      · exact .inl h4
      · refine .inr ⟨h4, h5, by omega, fun h8 => ?_⟩
        rcases (cov_append _ _ _).1 h8 with h8 | h8
        · exact h7 h8
        · have := (cov_one _ _).1 h8; omega
      · dsimp only at h4 h5
        refine .inr ⟨by omega, by omega, by omega, fun h8 => ?_⟩
        rcases (cov_append _ _ _).1 h8 with ⟨u, hu, h9, h10⟩ | h8
        · have := h.seen u hu; omega
        · have := (cov_one _ _).1 h8; omega
    · rintro (h4 | ⟨h4, h5, h6, h7⟩)
      · exact .inl (.inl h4)
      · by_cases h8 : i < f
        · exact .inl (.inr ⟨h4, h5, h8, fun h9 => h7 ((cov_append _ _ _).2 (.inl h9))⟩)
        · refine .inr ⟨by dsimp only; omega, ?_⟩
          dsimp only
          rcases Int.lt_or_le i t.1 with h9 | h9
          · exact h9
          · exact absurd ((cov_append _ _ _).2 (.inr ((cov_one _ _).2 ⟨h9, h6⟩))) h7
  · rcases List.mem_append.1 hu with hu | hu
    · have := h.from_ u hu; omega
    · rw [List.mem_singleton.1 hu]; exact h2
  · rcases List.mem_append.1 hu with hu | hu
    · rcases h.seen u hu with h4 | h4
      · exact .inl (by omega)
      · exact .inr h4
    · rw [List.mem_singleton.1 hu]; exact .inl (Int.le_refl _)
  · rcases List.mem_append.1 hu with hu | hu
    · exact h.end_ u hu
    · rw [List.mem_singleton.1 hu]; dsimp only; omega
theorem Wo.done {S B A : List (Int × Int)} {s : Int × Int} {f : Int} (h : Wo S B B s f A) (h1 : s.2 ≤ f) : WoD (S ++ [s]) B A :=
  ⟨h.sep, fun i => by
    rw [h.cov, cov_append, cov_one]
    constructor
    · rintro (h2 | ⟨h2, h3, h4, h5⟩)
      · exact ⟨.inl h2.1, h2.2⟩
      · exact ⟨.inr ⟨h2, h3⟩, h5⟩
    · rintro ⟨h2 | h2, h3⟩
      · exact .inl ⟨h2, h3⟩
      · exact .inr ⟨h2.1, h2.2, by omega, h3⟩, fun t ht => ⟨s, by simp, h.end_ t ht⟩, by have := h.len; simp [Nat.add_mul]; omega⟩
theorem Wo.rest {S B A : List (Int × Int)} {s : Int × Int} {f : Int} (h : Wo S B B s f A) (h1 : f < s.2) : WoD (S ++ [s]) B (A ++ [(f, s.2)]) := by
  have hat := h.at_
  refine ⟨sep_snoc h.sep h1 h.from_, fun i => ?_, fun t ht => ⟨s, by simp, ?_⟩, by have := h.len; simp [Nat.add_mul]; omega⟩
  · rw [cov_append, cov_one, h.cov, cov_append, cov_one]
    constructor
    · rintro ((h2 | ⟨h2, h3, h4, h5⟩) | ⟨h2, h3⟩)
      · exact ⟨.inl h2.1, h2.2⟩
      · exact ⟨.inr ⟨h2, h3⟩, h5⟩
      · dsimp only at h2 h3
        exact ⟨.inr ⟨by omega, h3⟩, fun ⟨u, hu, h9, h10⟩ => by have := h.seen u hu; omega⟩
    · rintro ⟨h2 | h2, h3⟩
      · exact .inl (.inl ⟨h2, h3⟩)
      · by_cases h4 : i < f
        · exact .inl (.inr ⟨h2.1, h2.2, h4, h3⟩)
        · exact .inr ⟨by dsimp only; omega, h2.2⟩
  · rcases List.mem_append.1 ht with ht | ht
    · exact h.end_ t ht
    · rw [List.mem_singleton.1 ht]; exact Int.le_refl _
end WM
/- Code points of a text by their bytes; what is covered: plain mathematics. -/
namespace PT
/-- a byte that goes on with a code point -/
def cont (b : UInt8) : Bool := decide (b.toNat / 64 = 2)
/-- what is laid over a byte -/
def rdc (b : UInt8) : UInt8 := if b = 32 ∨ b = 10 then b else 35
theorem rdc_small (b : UInt8) : (rdc b).toNat < 128 := by
  unfold rdc
  split
  · rename_i h; rcases h with rfl | rfl <;> decide
  · decide
theorem rdc_twice (b : UInt8) : rdc (rdc b) = rdc b := by
  rcases (show rdc b = 35 ∨ rdc b = 32 ∨ rdc b = 10 from by
    unfold rdc
    split
    · rename_i h; rcases h with rfl | rfl <;> decide
    · exact .inl rfl) with h | h | h <;> rw [h] <;> decide
theorem rdc_is (b : UInt8) : rdc b = 35 ∨ rdc b = 32 ∨ rdc b = 10 := by
  unfold rdc
  split
  · rename_i h; rcases h with rfl | rfl <;> decide
  · exact .inl rfl
theorem cont_small {b : UInt8} (h : b.toNat < 128) : cont b = false := decide_eq_false (by omega)
theorem cont_rdc (b : UInt8) : cont (rdc b) = false := cont_small (rdc_small b)
/-- the bytes with f are covered -/
def red : (Nat → Bool) → List UInt8 → List UInt8
  | _, [] => []
  | f, b :: t => (if f 0 then rdc b else b) :: red (fun i => f (i + 1)) t
theorem red_len : ∀ (f : Nat → Bool) (l : List UInt8), (red f l).length = l.length
  | _, [] => rfl
  | f, b :: t => by simp [red, red_len _ t]
theorem red_at : ∀ (f : Nat → Bool) (l : List UInt8) (i : Nat), (red f l)[i]? = (l[i]?).map fun b => if f i then rdc b else b
  | f, [], i => by simp [red]
  | f, b :: t, 0 => by simp [red]
  | f, b :: t, i + 1 => by simp [red, red_at _ t i]
theorem red_append : ∀ (f : Nat → Bool) (c r : List UInt8), red f (c ++ r) = red f c ++ red (fun i => f (i + c.length)) r
  | f, [], r => by simp [red]
  | f, b :: t, r => by
    simp only [List.cons_append, red, red_append _ t r, List.length_cons]
    congr 3
theorem red_no : ∀ (f : Nat → Bool) (l : List UInt8), (∀ i, i < l.length → f i = false) → red f l = l
  | f, [], _ => rfl
  | f, b :: t, h => by
    simp only [red]
    rw [h 0 (by simp), red_no _ t fun i hi => h (i + 1) (by simpa using hi)]
    rfl
theorem red_yes : ∀ (f : Nat → Bool) (l : List UInt8), (∀ i, i < l.length → f i = true) → ∀ b, b ∈ red f l → b.toNat < 128
  | f, [], _, b, h => by simp [red] at h
  | f, a :: t, h, b, hb => by
    simp only [red, List.mem_cons] at hb
    rcases hb with rfl | hb
    · rw [h 0 (by simp)]; exact rdc_small a
    · exact red_yes _ t (fun i hi => h (i + 1) (by simpa using hi)) b hb
theorem checkN_some {n b1 b2 b3 sz lo hi k : Nat} (hlo : sz = 2 ∨ sz = 3 ∨ sz = 4 → 128 ≤ lo ∧ hi ≤ 191) (h : Go.Lib.checkN n b1 b2 b3 sz lo hi = some k) :
    2 ≤ k ∧ k ≤ n ∧ k ≤ 4 ∧ (128 ≤ b1 ∧ b1 ≤ 191) ∧ (3 ≤ k → 128 ≤ b2 ∧ b2 ≤ 191) ∧ (4 ≤ k → 128 ≤ b3 ∧ b3 ≤ 191) ∧
    ∀ n' c2 c3, k ≤ n' → (3 ≤ k → c2 = b2) → (4 ≤ k → c3 = b3) → Go.Lib.checkN n' b1 c2 c3 sz lo hi = some k := by
  unfold Go.Lib.checkN at h
  by_cases h2 : sz = 2
  · rw [if_pos h2] at h
    have hb := hlo (.inl h2)
    split at h
    · cases h
    · obtain rfl := Option.some.inj h
      refine ⟨by omega, by omega, by omega, by omega, by omega, by omega, fun n' c2 c3 hn _ _ => ?_⟩
      unfold Go.Lib.checkN
      rw [if_pos h2, if_neg (by omega)]
  · rw [if_neg h2] at h
    by_cases h3 : sz = 3
    · rw [if_pos h3] at h
      have hb := hlo (.inr (.inl h3))
      split at h
      · cases h
      · obtain rfl := Option.some.inj h
        refine ⟨by omega, by omega, by omega, by omega, by omega, by omega, fun n' c2 c3 hn e2 _ => ?_⟩
        have := e2 (by omega)
        subst this
        unfold Go.Lib.checkN
        rw [if_neg h2, if_pos h3, if_neg (by omega)]
    · rw [if_neg h3] at h
      by_cases h4 : sz = 4
      · rw [if_pos h4] at h
        have hb := hlo (.inr (.inr h4))
        split at h
        · cases h
        · obtain rfl := Option.some.inj h
          refine ⟨by omega, by omega, by omega, by omega, by omega, by omega, fun n' c2 c3 hn e2 e3 => ?_⟩
          obtain rfl := e2 (by omega)
          obtain rfl := e3 (by omega)
          unfold Go.Lib.checkN
          rw [if_neg h2, if_neg h3, if_pos h4, if_neg (by omega)]
      · rw [if_neg h4] at h; cases h
theorem acc_in : ∀ b : Fin 256, 128 ≤ b.val → (Go.Lib.firstT b.val % 8 = 2 ∨ Go.Lib.firstT b.val % 8 = 3 ∨ Go.Lib.firstT b.val % 8 = 4) → 128 ≤ Go.Lib.accLo (Go.Lib.firstT b.val / 16) ∧ Go.Lib.accHi (Go.Lib.firstT b.val / 16) ≤ 191 := by decide +kernel
/-- the first code point of valid bytes -/
theorem chunk {l : List UInt8} (hv : Go.Lib.validD l = true) (hne : l ≠ []) : ∃ c r, l = c ++ r ∧ 0 < c.length ∧ cont (c.getD 0 0) = false ∧ (∀ i, 0 < i → i < c.length → cont (c.getD i 0) = true) ∧ (c.length = 1 ∨ 128 ≤ (c.getD 0 0).toNat) ∧ Go.Lib.validD r = true ∧ ∀ r', Go.Lib.validD (c ++ r') = Go.Lib.validD r' := by
  by_cases h0 : (l.getD 0 0).toNat < 128
  · obtain ⟨b, t, rfl⟩ := List.exists_cons_of_ne_nil hne
    have hb : b.toNat < 128 := by simpa using h0
    exact ⟨[b], t, rfl, by simp, cont_small hb, fun i h1 h2 => by simp at h2; omega, .inl rfl, by rw [Go.Lib.validD_cons b t hb] at hv; exact hv, fun r' => Go.Lib.validD_cons b r' hb⟩
  · have h0' : 128 ≤ (l.getD 0 0).toNat := by omega
    have hL := Go.Lib.validD_lead l hne h0'
    rw [hv] at hL
    split at hL
    · cases hL
    · rename_i k hk
      have hlt := (l.getD 0 0).toNat_lt
      obtain ⟨k1, k2, k3, k4, k5, k6, k7⟩ := checkN_some (acc_in ⟨(l.getD 0 0).toNat, hlt⟩ h0') hk
      have hg : ∀ i, i < k → (l.take k).getD i 0 = l.getD i 0 := fun i hi => by
        rw [List.getD_eq_getElem?_getD, List.getElem?_take_of_lt hi, ← List.getD_eq_getElem?_getD]
      have hgr : ∀ r' i, i < k → (l.take k ++ r').getD i 0 = l.getD i 0 := fun r' i hi => by
        rw [List.getD_eq_getElem?_getD, List.getElem?_append_left (by rw [List.length_take]; omega), List.getElem?_take_of_lt hi, ← List.getD_eq_getElem?_getD]
      have hlen : (l.take k).length = k := by rw [List.length_take]; omega
      have hhead : cont (l.getD 0 0) = false := by
        refine decide_eq_false fun hc => ?_
        have hb : 128 ≤ (l.getD 0 0).toNat ∧ (l.getD 0 0).toNat < 194 := by omega
        have := Go.Lib.decodeN_bad l.length (l.getD 0 0).toNat (l.getD 1 0).toNat (l.getD 2 0).toNat (l.getD 3 0).toNat (.inl hb)
        rcases Go.Lib.check_decode l.length (l.getD 0 0).toNat (l.getD 1 0).toNat (l.getD 2 0).toNat (l.getD 3 0).toNat (by omega) h0' hlt (l.getD 1 0).toNat_lt (l.getD 2 0).toNat_lt (l.getD 3 0).toNat_lt with ⟨h1, _⟩ | ⟨k', hk', h1, h2⟩
        · rw [hk] at h1; cases h1
        · rw [this] at h2; dsimp only at h2; omega
      refine ⟨l.take k, l.drop k, (List.take_append_drop k l).symm, by omega, by rw [hg 0 (by omega)]; exact hhead, fun i h1 h2 => ?_, .inr (by rw [hg 0 (by omega)]; exact h0'), hL.symm, fun r' => ?_⟩
      · rw [hlen] at h2
        rw [hg i h2]
        refine decide_eq_true ?_
        rcases (show i = 1 ∨ i = 2 ∨ i = 3 by omega) with rfl | rfl | rfl
        · omega
        · have := k5 (by omega); omega
        · have := k6 (by omega); omega
      · rw [Go.Lib.validD_lead (l.take k ++ r') (by intro h; have h9 := congrArg List.length h; rw [List.length_append, hlen] at h9; have : k + r'.length = 0 := h9; omega) (by rw [hgr r' 0 (by omega)]; exact h0')]
        rw [hgr r' 0 (by omega), hgr r' 1 (by omega), k7 (l.take k ++ r').length ((l.take k ++ r').getD 2 0).toNat ((l.take k ++ r').getD 3 0).toNat (by rw [List.length_append, hlen]; omega) (fun h => by rw [hgr r' 2 (by omega)]) (fun h => by rw [hgr r' 3 (by omega)])]
        simp [hlen]
/-- f is the same for all bytes of one code point -/
def Whole (l : List UInt8) (f : Nat → Bool) : Prop := ∀ i, i + 1 < l.length → cont (l.getD (i + 1) 0) = true → f (i + 1) = f i
theorem red_valid : ∀ (n : Nat) (l : List UInt8) (f : Nat → Bool), l.length ≤ n → Go.Lib.validD l = true → Whole l f → Go.Lib.validD (red f l) = true
  | 0, l, f, hn, _, _ => by
    obtain rfl : l = [] := List.eq_nil_of_length_eq_zero (by omega)
    rfl
  | n + 1, l, f, hn, hv, hw => by
    by_cases hne : l = []
    · subst hne; rfl
    · obtain ⟨c, r, rfl, h1, h2, h3, h4, h5, h6⟩ := chunk hv hne
      have hr : Go.Lib.validD (red (fun i => f (i + c.length)) r) = true := by
        refine red_valid n r _ (by simp at hn; omega) h5 fun i hi hc => ?_
        have := hw (i + c.length) (by simp; omega) (by rw [List.getD_eq_getElem?_getD, List.getElem?_append_right (by omega), show i + c.length + 1 - c.length = i + 1 by omega, ← List.getD_eq_getElem?_getD]; exact hc)
        show f (i + 1 + c.length) = f (i + c.length)
        rw [← this, show i + 1 + c.length = i + c.length + 1 by omega]
      have hf : ∀ i, i < c.length → f i = f 0 := fun i => by
        induction i with
        | zero => intro _; rfl
        | succ i ih =>
          intro hi
          rw [← ih (by omega)]
          refine hw i (by simp; omega) ?_
          have := h3 (i + 1) (by omega) hi
          rwa [List.getD_eq_getElem?_getD, List.getElem?_append_left (by omega), ← List.getD_eq_getElem?_getD]
      rw [red_append]
      cases h0 : f 0
      · rw [red_no f c fun i hi => (hf i hi).trans h0, h6, hr]
      · have hs := red_yes f c fun i hi => (hf i hi).trans h0
        rw [Go.Lib.validD_ascii c.length _ (fun b hb => hs b (by rwa [List.take_append_of_le_length (by rw [red_len]; exact Nat.le_refl _), List.take_of_length_le (by rw [red_len]; exact Nat.le_refl _)] at hb))]
        rw [List.drop_append_of_le_length (by rw [red_len]; exact Nat.le_refl _), List.drop_of_length_le (by rw [red_len]; exact Nat.le_refl _)]
        simpa using hr
/-- behind a byte below 128 no code point goes on -/
theorem lead_high : ∀ (n : Nat) (l : List UInt8), l.length ≤ n → Go.Lib.validD l = true → (∀ i, i + 1 < l.length → cont (l.getD (i + 1) 0) = true → 128 ≤ (l.getD i 0).toNat) ∧ cont (l.getD 0 0) = false
  | 0, l, hn, _ => by
    obtain rfl : l = [] := List.eq_nil_of_length_eq_zero (by omega)
    exact ⟨fun i hi => by simp at hi, rfl⟩
  | n + 1, l, hn, hv => by
    by_cases hne : l = []
    · subst hne; exact ⟨fun i hi => by simp at hi, rfl⟩
    · obtain ⟨c, r, rfl, h1, h2, h3, h4, h5, h6⟩ := chunk hv hne
      obtain ⟨ih1, ih2⟩ := lead_high n r (by simp at hn; omega) h5
      have gl : ∀ i, i < c.length → (c ++ r).getD i 0 = c.getD i 0 := fun i hi => by rw [List.getD_eq_getElem?_getD, List.getElem?_append_left hi, ← List.getD_eq_getElem?_getD]
      have gr : ∀ i, c.length ≤ i → (c ++ r).getD i 0 = r.getD (i - c.length) 0 := fun i hi => by rw [List.getD_eq_getElem?_getD, List.getElem?_append_right hi, ← List.getD_eq_getElem?_getD]
      refine ⟨fun i hi hc => ?_, by rw [gl 0 h1]; exact h2⟩
      by_cases hic : i + 1 < c.length
      · rw [gl i (by omega)]
        by_cases h0 : i = 0
        · subst h0
          rcases h4 with h4 | h4
          · omega
          · exact h4
        · have := of_decide_eq_true (h3 i (by omega) (by omega))
          omega
      · by_cases hie : i + 1 = c.length
        · rw [gr (i + 1) (by omega), show i + 1 - c.length = 0 by omega, ih2] at hc
          cases hc
        · rw [gr (i + 1) (by omega), show i + 1 - c.length = (i - c.length) + 1 by omega] at hc
          rw [gr i (by omega)]
          exact ih1 (i - c.length) (by simp at hi; omega) hc
/-- where the code point of byte i begins -/
def dn (l : List UInt8) : Nat → Nat
  | 0 => 0
  | i + 1 => if cont (l.getD (i + 1) 0) then dn l i else i + 1
/-- where a code point begins from i on -/
def upF (l : List UInt8) : Nat → Nat → Nat
  | 0, i => i
  | n + 1, i => if cont (l.getD i 0) then upF l n (i + 1) else i
def up (l : List UInt8) (i : Nat) : Nat := upF l (l.length - i) i
theorem cont_out {l : List UInt8} {i : Nat} (h : l.length ≤ i) : cont (l.getD i 0) = false := by
  rw [List.getD_eq_getElem?_getD, List.getElem?_eq_none h]; rfl
theorem cont_lt {l : List UInt8} {i : Nat} (h : cont (l.getD i 0) = true) : i < l.length := by
  rcases Nat.lt_or_ge i l.length with h1 | h1
  · exact h1
  · rw [cont_out h1] at h; cases h
theorem dn_le (l : List UInt8) : ∀ i, dn l i ≤ i
  | 0 => Nat.le_refl _
  | i + 1 => by
    unfold dn
    split
    · have := dn_le l i; omega
    · omega
theorem dn_step {l : List UInt8} {i : Nat} (h : cont (l.getD (i + 1) 0) = true) : dn l (i + 1) = dn l i := by simp only [dn]; rw [if_pos h]
theorem dn_stop {l : List UInt8} {i : Nat} (h : cont (l.getD i 0) = false) : dn l i = i := by
  cases i with
  | zero => rfl
  | succ i => simp only [dn]; rw [h]; rfl
theorem dn_mid (l : List UInt8) : ∀ i j, dn l i < j → j ≤ i → cont (l.getD j 0) = true
  | 0, j, h1, h2 => by have : dn l 0 = 0 := rfl; omega
  | i + 1, j, h1, h2 => by
    by_cases hc : cont (l.getD (i + 1) 0) = true
    · rw [dn_step hc] at h1
      by_cases e : j = i + 1
      · rw [e]; exact hc
      · exact dn_mid l i j h1 (by omega)
    · rw [dn_stop (by simpa using hc)] at h1; omega
theorem dn_start (l : List UInt8) : ∀ i, dn l i = 0 ∨ cont (l.getD (dn l i) 0) = false
  | 0 => .inl rfl
  | i + 1 => by
    by_cases hc : cont (l.getD (i + 1) 0) = true
    · rw [dn_step hc]; exact dn_start l i
    · rw [dn_stop (by simpa using hc)]; exact .inr (by simpa using hc)
/-- between two numbers all bytes go on: one code point -/
theorem dn_same (l : List UInt8) : ∀ (d i : Nat), (∀ j, i < j → j ≤ i + d → cont (l.getD j 0) = true) → dn l (i + d) = dn l i
  | 0, i, _ => rfl
  | d + 1, i, h => by
    rw [show i + (d + 1) = (i + d) + 1 by omega, dn_step (h (i + d + 1) (by omega) (by omega)), dn_same l d i fun j h1 h2 => h j h1 (by omega)]
theorem dn_eq_of {l : List UInt8} {i j : Nat} (h1 : dn l j ≤ i) (h2 : i ≤ j) : dn l i = dn l j := by
  have := dn_same l (j - i) i fun k k1 k2 => dn_mid l j k (by omega) (by omega)
  rw [show i + (j - i) = j by omega] at this
  exact this.symm
theorem dn_mono {l : List UInt8} {i j : Nat} (h : i ≤ j) : dn l i ≤ dn l j := by
  by_cases h1 : dn l j ≤ i
  · rw [dn_eq_of h1 h]; exact Nat.le_refl _
  · have := dn_le l i; omega
theorem upF_le (l : List UInt8) : ∀ n i, i ≤ upF l n i ∧ upF l n i ≤ i + n
  | 0, i => ⟨Nat.le_refl _, Nat.le_refl _⟩
  | n + 1, i => by
    unfold upF
    split
    · have := upF_le l n (i + 1); omega
    · omega
theorem upF_mid (l : List UInt8) : ∀ n i j, i ≤ j → j < upF l n i → cont (l.getD j 0) = true
  | 0, i, j, h1, h2 => by simp only [upF] at h2; omega
  | n + 1, i, j, h1, h2 => by
    unfold upF at h2
    split at h2
    · rename_i hc
      by_cases e : j = i
      · rw [e]; exact hc
      · exact upF_mid l n (i + 1) j (by omega) h2
    · omega
theorem upF_stop (l : List UInt8) : ∀ n i, upF l n i = i + n ∨ cont (l.getD (upF l n i) 0) = false
  | 0, i => .inl rfl
  | n + 1, i => by
    unfold upF
    split
    · rcases upF_stop l n (i + 1) with h | h
      · exact .inl (by omega)
      · exact .inr h
    · rename_i hc; exact .inr (by simpa using hc)
theorem up_stop {l : List UInt8} {i : Nat} (h : i ≤ l.length) : cont (l.getD (up l i) 0) = false := by
  rcases upF_stop l (l.length - i) i with h1 | h1
  · unfold up; rw [h1]; exact cont_out (by omega)
  · exact h1
theorem up_le {l : List UInt8} {i : Nat} (h : i ≤ l.length) : i ≤ up l i ∧ up l i ≤ l.length := by
  have := upF_le l (l.length - i) i
  unfold up; omega
theorem up_fix {l : List UInt8} {i : Nat} (h : cont (l.getD i 0) = false) : up l i = i := by
  unfold up
  cases l.length - i with
  | zero => rfl
  | succ n => simp only [upF]; rw [h]; rfl
theorem up_next {l : List UInt8} {i : Nat} (h : cont (l.getD i 0) = true) : up l i = up l (i + 1) := by
  have hlt := cont_lt h
  unfold up
  rw [show l.length - i = (l.length - (i + 1)) + 1 by omega]
  simp only [upF]
  rw [if_pos h]
/-- byte i is covered: one of its code point's bytes is in a span -/
def covd (l : List UInt8) (C : Int → Prop) (i : Nat) : Prop := ∃ k : Nat, C k ∧ k < l.length ∧ dn l k = dn l i
theorem span_covd {l : List UInt8} {p q i : Nat} (hpq : p < q) (hq : q ≤ l.length) : (dn l p ≤ i ∧ i < up l q) ↔ ∃ k, p ≤ k ∧ k < q ∧ dn l k = dn l i := by
  have hu := up_le hq
  constructor
  · rintro ⟨h1, h2⟩
    by_cases a : i < p
    · exact ⟨p, Nat.le_refl _, hpq, (dn_eq_of h1 (by omega)).symm⟩
    · by_cases b : i < q
      · exact ⟨i, by omega, b, rfl⟩
      · refine ⟨q - 1, by omega, by omega, ?_⟩
        have := dn_same l (i - (q - 1)) (q - 1) fun j h3 h4 => upF_mid l (l.length - q) q j (by omega) (by unfold up at h2; omega)
        rw [show q - 1 + (i - (q - 1)) = i by omega] at this
        exact this.symm
  · rintro ⟨k, h1, h2, h3⟩
    have a := dn_mono (l := l) h1
    have b := dn_le l i
    have c := dn_le l k
    refine ⟨by omega, ?_⟩
    by_cases d : i < q
    · omega
    · rcases Nat.lt_or_ge i (up l q) with e | e
      · exact e
      · have hs := up_stop hq
        rw [dn_mid l i (up l q) (by omega) e] at hs
        cases hs
/-- the bytes that are covered -/
noncomputable def covB (l : List UInt8) (C : Int → Prop) (i : Nat) : Bool := @decide (covd l C i) (Classical.propDecidable _)
theorem covB_iff {l : List UInt8} {C : Int → Prop} {i : Nat} : covB l C i = true ↔ covd l C i := by unfold covB; exact @decide_eq_true_iff _ (Classical.propDecidable _)
theorem covd_dn {l : List UInt8} {C : Int → Prop} {i j : Nat} (h : dn l i = dn l j) : covd l C i ↔ covd l C j := by unfold covd; rw [h]
theorem covB_whole (l : List UInt8) (C : Int → Prop) : Whole l (covB l C) := fun i _ hc => by
  have := dn_step hc
  by_cases h : covd l C i
  · rw [covB_iff.2 h, covB_iff.2 ((covd_dn this).2 h)]
  · have h2 : ¬ covd l C (i + 1) := fun h3 => h ((covd_dn this).1 h3)
    rw [Bool.eq_false_iff.2 (fun h3 => h (covB_iff.1 h3)), Bool.eq_false_iff.2 (fun h3 => h2 (covB_iff.1 h3))]
theorem red_getD (f : Nat → Bool) (l : List UInt8) (i : Nat) (h : i < l.length) : (red f l).getD i 0 = if f i then rdc (l.getD i 0) else l.getD i 0 := by
  rw [List.getD_eq_getElem?_getD, red_at, List.getD_eq_getElem?_getD, List.getElem?_eq_getElem h]
  rfl
theorem cont_red (f : Nat → Bool) (l : List UInt8) (i : Nat) : cont ((red f l).getD i 0) = (cont (l.getD i 0) && !f i) := by
  rcases Nat.lt_or_ge i l.length with h | h
  · rw [red_getD f l i h]
    cases f i
    · simp
    · simp [cont_rdc]
  · rw [cont_out h, cont_out (by rw [red_len]; exact h)]; rfl
theorem dn_red {l : List UInt8} {f : Nat → Bool} (hw : Whole l f) : ∀ i, i < l.length → dn (red f l) i = if f i then i else dn l i
  | 0, _ => by show 0 = _; split <;> rfl
  | i + 1, h => by
    by_cases hc : cont (l.getD (i + 1) 0) = true
    · have hf := hw i h hc
      cases hfi : f (i + 1)
      · rw [dn_step (by rw [cont_red, hc, hfi]; rfl), dn_red hw i (by omega), ← hf, hfi, if_neg (by simp), if_neg (by simp), dn_step hc]
      · rw [dn_stop (by rw [cont_red, hfi]; simp)]; rfl
    · have hc' : cont (l.getD (i + 1) 0) = false := by simpa using hc
      rw [dn_stop (by rw [cont_red, hc']; rfl), dn_stop hc']; simp
/-- covering twice is covering both at once -/
theorem red_twice (l : List UInt8) (A B C : Int → Prop) (hC : ∀ i : Nat, C i ↔ A i ∨ B i) : red (covB (red (covB l A) l) B) (red (covB l A) l) = red (covB l C) l := by
  apply List.ext_getElem?
  intro i
  rw [red_at, red_at, red_at]
  rcases Nat.lt_or_ge i l.length with h | h
  · rw [List.getElem?_eq_getElem h]
    simp only [Option.map_some]
    congr 1
    have key : covB l C i = (covB l A i || covB (red (covB l A) l) B i) := by
      rw [Bool.eq_iff_iff, Bool.or_eq_true, covB_iff, covB_iff, covB_iff]
      constructor
      · rintro ⟨k, h1, h2, h3⟩
        by_cases ha : covd l A i
        · exact .inl ha
        · rcases (hC k).1 h1 with h4 | h4
          · exact absurd ⟨k, h4, h2, h3⟩ ha
          · refine .inr ⟨k, h4, by rw [red_len]; exact h2, ?_⟩
            have hk : covB l A k = false := Bool.eq_false_iff.2 fun h5 => ha ((covd_dn h3).1 (covB_iff.1 h5))
            have hi : covB l A i = false := Bool.eq_false_iff.2 fun h5 => ha (covB_iff.1 h5)
            rw [dn_red (covB_whole l A) k h2, dn_red (covB_whole l A) i h, hk, hi]
            simpa using h3
      · rintro (⟨k, h1, h2, h3⟩ | ⟨k, h1, h2, h3⟩)
        · exact ⟨k, (hC k).2 (.inl h1), h2, h3⟩
        · rw [red_len] at h2
          rw [dn_red (covB_whole l A) k h2, dn_red (covB_whole l A) i h] at h3
          cases hk : covB l A k
          · cases hi : covB l A i
            · rw [hk, hi] at h3
              exact ⟨k, (hC k).2 (.inr h1), h2, by simpa using h3⟩
            · obtain ⟨j, j1, j2, j3⟩ := covB_iff.1 hi
              exact ⟨j, (hC j).2 (.inl j1), j2, j3⟩
          · cases hi : covB l A i
            · rw [hk, hi] at h3
              have h4 : k = dn l i := by simpa using h3
              have h5 : dn l k = dn l i := by rw [h4]; exact dn_eq_of (i := dn l i) (Nat.le_refl _) (dn_le l i)
              have := (covd_dn h5).1 (covB_iff.1 hk)
              rw [covB_iff.2 this] at hi; cases hi
            · obtain ⟨j, j1, j2, j3⟩ := covB_iff.1 hi
              exact ⟨j, (hC j).2 (.inl j1), j2, j3⟩
    rw [key]
    cases covB l A i <;> cases covB (red (covB l A) l) B i <;> simp [rdc_twice]
  · rw [List.getElem?_eq_none h]; rfl
end PT
/- Plain mathematics of words: the longest runs of bytes that pass a test; pieces between bytes. -/
namespace WM
open Go.Lib

def nxt (acc : List (Nat × Nat)) (st : Option Nat) (pos : Nat) : List (Nat × Nat) := match st with | some a => acc ++ [(a, pos)] | none => acc
/-- the longest runs of bytes that pass q, from pos on; st: where the run at hand begins -/
def runsB (q : UInt8 → Bool) (s : ByteArray) : Nat → Nat → Option Nat → List (Nat × Nat) → List (Nat × Nat) × Option Nat
  | 0, _, st, acc => (acc, st)
  | f + 1, pos, st, acc =>
    if pos < s.size then (if q (s.get! pos) then runsB q s f (pos + 1) (some (st.getD pos)) acc else runsB q s f (pos + 1) none (nxt acc st pos)) else (acc, st)
def runs (q : UInt8 → Bool) (s : ByteArray) : List (Nat × Nat) := closeSpans s (runsB q s s.size 0 none [])

theorem runsB_end (q : UInt8 → Bool) (s : ByteArray) (f pos : Nat) (st : Option Nat) (acc : List (Nat × Nat)) (h : ¬ pos < s.size) : runsB q s f pos st acc = (acc, st) := by
  cases f <;> simp [runsB, h]
theorem runsB_yes {q : UInt8 → Bool} {s : ByteArray} {pos : Nat} (h : pos < s.size) (hq : q (s.get! pos) = true) (f : Nat) (st : Option Nat) (acc : List (Nat × Nat)) :
    runsB q s (f + 1) pos st acc = runsB q s f (pos + 1) (some (st.getD pos)) acc := by simp [runsB, h, hq]
theorem runsB_no {q : UInt8 → Bool} {s : ByteArray} {pos : Nat} (h : pos < s.size) (hq : q (s.get! pos) = false) (f : Nat) (st : Option Nat) (acc : List (Nat × Nat)) :
    runsB q s (f + 1) pos st acc = runsB q s f (pos + 1) none (nxt acc st pos) := by simp [runsB, h, hq]

theorem spans_yes {p : Nat → Bool} {s : ByteArray} {pos : Nat} (h : pos < s.size) (hp : p (Go.Utf8.decode s pos).1 = false) (f : Nat) (st : Option Nat) (acc : List (Nat × Nat)) :
    spansFromP p s (f + 1) pos st acc = spansFromP p s f (pos + (Go.Utf8.decode s pos).2) (some (st.getD pos)) acc := by
  cases st <;> simp [spansFromP, h, hp]
theorem spans_no {p : Nat → Bool} {s : ByteArray} {pos : Nat} (h : pos < s.size) (hp : p (Go.Utf8.decode s pos).1 = true) (f : Nat) (st : Option Nat) (acc : List (Nat × Nat)) :
    spansFromP p s (f + 1) pos st acc = spansFromP p s f (pos + (Go.Utf8.decode s pos).2) none (nxt acc st pos) := by
  cases st <;> simp [spansFromP, h, hp, nxt]

/-- a test of runes that is one of bytes below 128 and takes all others -/
structure Tests (p : Nat → Bool) (q : UInt8 → Bool) : Prop where
  low : ∀ r, r < 128 → p r = !q (UInt8.ofNat r)
  high : ∀ r, 128 ≤ r → p r = false
  bytes : ∀ b : UInt8, 128 ≤ b.toNat → q b = true

theorem yes_n {q : UInt8 → Bool} {s : ByteArray} (acc : List (Nat × Nat)) : ∀ (k f pos a : Nat), (∀ j, j < k → pos + j < s.size ∧ q (s.get! (pos + j)) = true) → runsB q s (f + k) pos (some a) acc = runsB q s f (pos + k) (some a) acc
  | 0, f, pos, a, _ => rfl
  | k + 1, f, pos, a, h => by
    have h0 : pos < s.size ∧ q (s.get! pos) = true := h 0 (by omega)
    rw [show f + (k + 1) = (f + k) + 1 by omega, runsB_yes h0.1 h0.2, show (some a).getD pos = a from rfl, yes_n acc k f (pos + 1) a (fun j hj => by have := h (j + 1) (by omega); rwa [show pos + 1 + j = pos + (j + 1) by omega])]
    congr 1; omega

theorem spans_runs {p : Nat → Bool} {q : UInt8 → Bool} (T : Tests p q) (s : ByteArray) : ∀ (n f f' pos : Nat) (st : Option Nat) (acc : List (Nat × Nat)), s.size ≤ pos + n → s.size ≤ pos + f → s.size ≤ pos + f' → spansFromP p s f pos st acc = runsB q s f' pos st acc
  | 0, f, f', pos, st, acc, h, _, _ => by rw [spansFromP_end _ _ _ _ _ _ (by omega), runsB_end _ _ _ _ _ _ (by omega)]
  | n + 1, f, f', pos, st, acc, h, hf, hf' => by
    rcases Nat.lt_or_ge pos s.size with hlt | hlt'
    rotate_left
    · have hlt : ¬ pos < s.size := Nat.not_lt.2 hlt'
      rw [spansFromP_end _ _ _ _ _ _ hlt, runsB_end _ _ _ _ _ _ hlt]
    obtain ⟨g, rfl⟩ : ∃ g, f = g + 1 := ⟨f - 1, by omega⟩
    obtain ⟨g', rfl⟩ : ∃ g', f' = g' + 1 := ⟨f' - 1, by omega⟩
    have hd := decode_at s pos
    by_cases hb : (s.get! pos).toNat < 128
    · have hd1 : Go.Utf8.decode s pos = ((s.get! pos).toNat, 1) := by rw [hd]; unfold decodeN; rw [if_pos hb]
      have hp := T.low _ hb
      rw [show UInt8.ofNat (s.get! pos).toNat = s.get! pos by simp] at hp
      cases hq : q (s.get! pos)
      · rw [hq] at hp
        rw [spans_no hlt (by rw [hd1]; exact hp), runsB_no hlt hq, hd1]
        exact spans_runs T s n g g' (pos + 1) none _ (by omega) (by omega) (by omega)
      · rw [hq] at hp
        rw [spans_yes hlt (by rw [hd1]; exact hp), runsB_yes hlt hq, hd1]
        exact spans_runs T s n g g' (pos + 1) _ _ (by omega) (by omega) (by omega)
    · have hq0 : q (s.get! pos) = true := T.bytes _ (by omega)
      have fin : ∀ k, 1 ≤ k → k ≤ s.size - pos → 128 ≤ (Go.Utf8.decode s pos).1 → (Go.Utf8.decode s pos).2 = k → (∀ j, 1 ≤ j → j < k → q (s.get! (pos + j)) = true) →
          spansFromP p s (g + 1) pos st acc = runsB q s (g' + 1) pos st acc := by
        intro k hk hks hr hw hqs
        rw [spans_yes hlt (T.high _ hr), hw]
        have e := yes_n (s := s) (q := q) acc (k - 1) (g' - (k - 1)) (pos + 1) (st.getD pos) (fun j hj => ⟨by omega, by rw [show pos + 1 + j = pos + (j + 1) by omega]; exact hqs (j + 1) (by omega) (by omega)⟩)
        rw [show g' - (k - 1) + (k - 1) = g' by omega, show pos + 1 + (k - 1) = pos + k by omega] at e
        rw [runsB_yes hlt hq0, e]
        exact spans_runs T s n g (g' - (k - 1)) (pos + k) _ _ (by omega) (by omega) (by omega)
      have hi : ∀ j, (s.get! (pos + j)).toNat / 64 = 2 → q (s.get! (pos + j)) = true := fun j h => T.bytes _ (by omega)
      rcases decodeN_shape (s.size - pos) (s.get! pos).toNat (s.get! (pos + 1)).toNat (s.get! (pos + 2)).toNat (s.get! (pos + 3)).toNat with ⟨h0, _⟩ | ⟨_, h1, c1, hr, e⟩ | ⟨_, h1, c1, c2, hr, _, e⟩ | ⟨_, h1, c1, c2, c3, hr, _, e⟩ | e <;> try rw [← hd] at e
      · exact absurd h0 hb
      · refine fin 2 (by omega) (by omega) (by rw [e]; exact hr) (by rw [e]) ?_
        intro j h1 h2
        obtain rfl : j = 1 := by omega
        exact hi 1 c1
      · refine fin 3 (by omega) (by omega) (by rw [e]; show 128 ≤ _; omega) (by rw [e]) ?_
        intro j h1 h2
        obtain rfl | rfl : j = 1 ∨ j = 2 := by omega
        · exact hi 1 c1
        · exact hi 2 c2
      · refine fin 4 (by omega) (by omega) (by rw [e]; show 128 ≤ _; omega) (by rw [e]) ?_
        intro j h1 h2
        obtain rfl | rfl | rfl : j = 1 ∨ j = 2 ∨ j = 3 := by omega
        · exact hi 1 c1
        · exact hi 2 c2
        · exact hi 3 c3
      · refine fin 1 (by omega) (by omega) (by rw [e]; show 128 ≤ 65533; omega) (by rw [e]) ?_
        intro j h1 h2
        omega

theorem fields_runs {p : Nat → Bool} {q : UInt8 → Bool} (T : Tests p q) (s : ByteArray) : goFieldsP p s = (runs q s).map fun x => s.extract x.1 x.2 := by
  unfold goFieldsP spansOfP runs
  rw [spans_runs T s s.size s.size s.size 0 none [] (by omega) (by omega) (by omega)]

/-- runs are cut well -/
theorem runsB_good (q : UInt8 → Bool) (s : ByteArray) : ∀ (f pos : Nat) (st : Option Nat) (acc : List (Nat × Nat)), s.size ≤ pos + f → (∀ x ∈ acc, x.1 < x.2 ∧ x.2 ≤ s.size) → (∀ a, st = some a → a < pos ∧ pos ≤ s.size) →
    (∀ x ∈ closeSpans s (runsB q s f pos st acc), x.1 < x.2 ∧ x.2 ≤ s.size)
  | 0, pos, st, acc, hf, ha, hs => by
    intro x hx
    cases st with
    | none => exact ha x hx
    | some a =>
      rcases List.mem_append.1 hx with h | h
      · exact ha x h
      · simp at h; subst h; have := hs a rfl; exact ⟨by simp; omega, by simp⟩
  | f + 1, pos, st, acc, hf, ha, hs => by
    rcases Nat.lt_or_ge pos s.size with hlt | hlt'
    rotate_left
    · have hlt : ¬ pos < s.size := Nat.not_lt.2 hlt'
      rw [runsB_end _ _ _ _ _ _ hlt]
      have := runsB_good q s 0 pos st acc (by omega) ha hs
      exact this
    cases hq : q (s.get! pos)
    · rw [runsB_no hlt hq]
      refine runsB_good q s f (pos + 1) none _ (by omega) ?_ (fun a h => by cases h)
      cases st with
      | none => exact ha
      | some a =>
        intro x hx
        rcases List.mem_append.1 hx with h | h
        · exact ha x h
        · simp at h; subst h; have := hs a rfl; exact ⟨this.1, by show pos ≤ s.size; omega⟩
    · rw [runsB_yes hlt hq]
      refine runsB_good q s f (pos + 1) _ _ (by omega) ha (fun a h => ?_)
      cases st with
      | none => simp at h; omega
      | some b => simp at h; have := hs b rfl; omega
theorem runs_good (q : UInt8 → Bool) (s : ByteArray) : ∀ x ∈ runs q s, x.1 < x.2 ∧ x.2 ≤ s.size :=
  runsB_good q s s.size 0 none [] (by omega) (fun x h => by cases h) (fun a h => by cases h)

theorem runsB_congr {q : UInt8 → Bool} {s s' : ByteArray} (hs : s.size = s'.size) (hq : ∀ i, i < s.size → q (s.get! i) = q (s'.get! i)) : ∀ (f pos : Nat) (st : Option Nat) (acc : List (Nat × Nat)), runsB q s f pos st acc = runsB q s' f pos st acc
  | 0, _, _, _ => rfl
  | f + 1, pos, st, acc => by
    by_cases hlt : pos < s.size
    · cases h : q (s.get! pos)
      · rw [runsB_no hlt h, runsB_no (by omega) (by rw [← hq pos hlt]; exact h)]; exact runsB_congr hs hq f _ _ _
      · rw [runsB_yes hlt h, runsB_yes (by omega) (by rw [← hq pos hlt]; exact h)]; exact runsB_congr hs hq f _ _ _
    · rw [runsB_end _ _ _ _ _ _ hlt, runsB_end _ _ _ _ _ _ (by omega)]
theorem runs_congr {q : UInt8 → Bool} {s s' : ByteArray} (hs : s.size = s'.size) (hq : ∀ i, i < s.size → q (s.get! i) = q (s'.get! i)) : runs q s = runs q s' := by
  unfold runs
  rw [runsB_congr hs hq, hs]
  unfold closeSpans
  rw [hs]

theorem get_list (s : ByteArray) (i : Nat) (h : i < s.size) : s.data.toList[i]? = some (s.get! i) := by
  obtain ⟨⟨l⟩⟩ := s
  have h' : i < l.length := h
  show l[i]? = _
  rw [List.getElem?_eq_getElem h']
  congr 1
  show l[i] = (Array.mk l)[i]!
  simp [h']

/-- small letters for A to Z -/
def smallB (c : UInt8) : UInt8 := if 65 ≤ c.toNat ∧ c.toNat ≤ 90 then c - 65 + 97 else c
def small (s : ByteArray) : ByteArray := ⟨s.data.map smallB⟩
theorem small_size (s : ByteArray) : (small s).size = s.size := by show (s.data.map smallB).size = s.data.size; simp
theorem small_get (s : ByteArray) (i : Nat) (h : i < s.size) : (small s).get! i = smallB (s.get! i) := by
  have h1 := get_list (small s) i (by rw [small_size]; exact h)
  have h2 := get_list s i h
  have e : (small s).data.toList = s.data.toList.map smallB := by show (s.data.map smallB).toList = _; simp
  rw [e, List.getElem?_map, h2] at h1
  exact (Option.some.inj h1).symm
theorem small_extract (s : ByteArray) (a b : Nat) : (small s).extract a b = small (s.extract a b) := by
  apply ByteArray.ext
  rw [ByteArray.data_extract]
  show (s.data.map smallB).extract a b = (s.extract a b).data.map smallB
  rw [ByteArray.data_extract, Array.map_extract]

/-- the bytes of words -/
def wordB (c : UInt8) : Bool := decide (97 ≤ c.toNat ∧ c.toNat ≤ 122) || decide (65 ≤ c.toNat ∧ c.toNat ≤ 90) || decide (48 ≤ c.toNat ∧ c.toNat ≤ 57) || decide (128 ≤ c.toNat)
theorem all_u8 (p : UInt8 → Prop) (h : ∀ n : Fin 256, p (UInt8.ofNat n.val)) : ∀ c, p c := by
  intro c
  have := h ⟨c.toNat, c.toNat_lt⟩
  simpa using this
theorem word_small : ∀ c : UInt8, wordB (smallB c) = wordB c := by apply all_u8; decide +kernel
def wordP (r : Nat) : Bool := decide (r < 128) && !wordB (UInt8.ofNat r)
theorem word_tests : Tests wordP wordB where
  low r h := by simp [wordP, h]
  high r h := by simp [wordP]; omega
  bytes b h := by simp [wordB]; omega

/-- Words of a string -/
def words (s : ByteArray) : List ByteArray := (runs wordB s).map fun x => small (s.extract x.1 x.2)
theorem words_eq (s : ByteArray) : goFieldsP wordP (small s) = words s := by
  rw [fields_runs word_tests]
  rw [runs_congr (s := small s) (s' := s) (small_size s) (fun i hi => by rw [small_get s i (by rw [small_size] at hi; exact hi)]; exact word_small _)]
  unfold words
  simp only [small_extract]

/-- by lists of bytes -/
def fieldsL (q : UInt8 → Bool) : List UInt8 → List UInt8 → List (List UInt8)
  | [], cur => if cur.isEmpty then [] else [cur]
  | b :: t, cur => if q b then fieldsL q t (cur ++ [b]) else if cur.isEmpty then fieldsL q t [] else cur :: fieldsL q t []
def curOf (L : List UInt8) (pos : Nat) : Option Nat → List UInt8 | none => [] | some a => (L.take pos).drop a
theorem runsB_list (q : UInt8 → Bool) (s : ByteArray) : ∀ (f pos : Nat) (st : Option Nat) (acc : List (Nat × Nat)), s.size ≤ pos + f → pos ≤ s.size → (∀ a, st = some a → a < pos) →
    (closeSpans s (runsB q s f pos st acc)).map (fun x => (s.extract x.1 x.2).data.toList) = acc.map (fun x => (s.extract x.1 x.2).data.toList) ++ fieldsL q (s.data.toList.drop pos) (curOf s.data.toList pos st) := by
  have hex : ∀ a b, (s.extract a b).data.toList = (s.data.toList.take b).drop a := fun a b => by
    rw [ByteArray.data_extract, Array.toList_extract, List.extract_eq_take_drop, List.drop_take]
  have hlen : s.data.toList.length = s.size := by simp
  have hne : ∀ a pos, a < pos → pos ≤ s.size → ((s.data.toList.take pos).drop a).isEmpty = false := fun a pos h1 h2 => by
    rw [List.isEmpty_eq_false_iff]
    intro h0
    have := congrArg List.length h0
    rw [List.length_drop, List.length_take, hlen] at this
    simp at this; omega
  intro f
  induction f with
  | zero =>
    intro pos st acc hf hp hs
    have hpe : pos = s.size := by omega
    have hd : s.data.toList.drop pos = [] := List.drop_eq_nil_of_le (by omega)
    rw [hd]
    cases st with
    | none => simp [runsB, closeSpans, fieldsL, curOf]
    | some a =>
      have := hne a pos (hs a rfl) hp
      simp only [runsB, closeSpans, fieldsL, curOf, List.map_append, List.map_cons, List.map_nil, this, hex]
      rw [hpe]; rfl
  | succ f ih =>
    intro pos st acc hf hp hs
    rcases Nat.lt_or_ge pos s.size with hlt | hlt'
    rotate_left
    · have hlt : ¬ pos < s.size := Nat.not_lt.2 hlt'
      have h := ih pos st acc (by omega) hp hs
      rw [runsB_end _ _ _ _ _ _ hlt]
      rwa [runsB_end _ _ _ _ _ _ hlt] at h
    have hg := get_list s pos hlt
    have hd : s.data.toList.drop pos = s.get! pos :: s.data.toList.drop (pos + 1) := by
      rw [List.drop_eq_getElem_cons (by omega)]
      congr 1
      rw [List.getElem?_eq_getElem (by omega)] at hg
      exact Option.some.inj hg
    have ht : s.data.toList.take (pos + 1) = s.data.toList.take pos ++ [s.get! pos] := by
      rw [List.take_add_one, hg]; rfl
    have htl : (s.data.toList.take pos).length = pos := by rw [List.length_take]; omega
    rw [hd]
    cases hq : q (s.get! pos)
    · rw [runsB_no hlt hq, ih (pos + 1) none _ (by omega) (by omega) (fun a h => by cases h)]
      cases st with
      | none => simp [nxt, fieldsL, hq, curOf]
      | some a =>
        have := hne a pos (hs a rfl) hp
        simp only [nxt, fieldsL, hq, curOf, this, List.map_append, List.map_cons, List.map_nil, hex, List.append_assoc, List.singleton_append, Bool.false_eq_true, if_false]
    · rw [runsB_yes hlt hq, ih (pos + 1) _ _ (by omega) (by omega) (fun a h => by cases st with | none => simp at h; omega | some b => simp at h; have := hs b rfl; omega)]
      simp only [fieldsL, hq, if_true]
      congr 2
      cases st with
      | none => show (s.data.toList.take (pos + 1)).drop pos = [] ++ [_]; rw [ht, List.drop_append, List.drop_eq_nil_of_le (by omega), htl, Nat.sub_self]; rfl
      | some a =>
        show (s.data.toList.take (pos + 1)).drop a = (s.data.toList.take pos).drop a ++ [_]
        have := hs a rfl
        rw [ht, List.drop_append_of_le_length (by omega)]
theorem runs_list (q : UInt8 → Bool) (s : ByteArray) : (runs q s).map (fun x => (s.extract x.1 x.2).data.toList) = fieldsL q s.data.toList [] := by
  have := runsB_list q s s.size 0 none [] (by omega) (by omega) (fun a h => by cases h)
  rw [show curOf s.data.toList 0 none = [] from rfl] at this
  simpa only [runs, List.map_nil, List.nil_append, List.drop_zero] using this

/-- the pieces between bytes c -/
def splitC (c : UInt8) : List UInt8 → List UInt8 → List (List UInt8)
  | [], cur => [cur]
  | b :: t, cur => if b = c then cur :: splitC c t [] else splitC c t (cur ++ [b])
theorem fields_split (c : UInt8) : ∀ (l cur : List UInt8), fieldsL (fun b => !(b == c)) l cur = (splitC c l cur).filter fun x => !x.isEmpty
  | [], cur => by cases cur <;> simp [fieldsL, splitC]
  | b :: t, cur => by
    by_cases h : b = c
    · subst h
      have ih := fields_split b t []
      cases cur <;> simp [fieldsL, splitC, ih]
    · have ih := fields_split c t (cur ++ [b])
      simp [fieldsL, splitC, h, ih]
theorem splitC_head (c : UInt8) : ∀ (a r cur : List UInt8), c ∉ a → splitC c (a ++ c :: r) cur = (cur ++ a) :: splitC c r []
  | [], r, cur, _ => by simp [splitC]
  | b :: t, r, cur, h => by
    have hb : ¬ b = c := fun e => h (by simp [e])
    rw [List.cons_append, splitC, if_neg hb, splitC_head c t r _ (fun e => h (by simp [e]))]
    simp
theorem splitC_none (c : UInt8) : ∀ (a cur : List UInt8), c ∉ a → splitC c a cur = [cur ++ a]
  | [], cur, _ => by simp [splitC]
  | b :: t, cur, h => by
    have hb : ¬ b = c := fun e => h (by simp [e])
    rw [splitC, if_neg hb, splitC_none c t _ (fun e => h (by simp [e]))]
    simp
theorem indexByte_head (c : UInt8) : ∀ (a r : List UInt8), c ∉ a → indexByte (a ++ c :: r) c = (a.length : Int)
  | [], r, _ => by simp [indexByte]
  | b :: t, r, h => by
    have hb : ¬ b = c := fun e => h (by simp [e])
    have ih := indexByte_head c t r (fun e => h (by simp [e]))
    have hn : ¬ ((t.length : Int) = -1) := by omega
    simp [indexByte, hb, ih]
theorem first_of (c : UInt8) : ∀ l : List UInt8, c ∈ l → ∃ a r, l = a ++ c :: r ∧ c ∉ a
  | [], h => by cases h
  | b :: t, h => by
    by_cases hb : b = c
    · exact ⟨[], t, by simp [hb], by simp⟩
    · have hct : c ∈ t := by
        rcases List.mem_cons.1 h with h | h
        · exact absurd h.symm hb
        · exact h
      obtain ⟨a, r, e, ha⟩ := first_of c t hct
      exact ⟨b :: a, r, by simp [e], by simp [ha, Ne.symm hb]⟩
theorem split_one (c : UInt8) : ∀ (n : Nat) (l : List UInt8), l.length ≤ n → splitK [c] 0 (count l [c]) l = splitC c l []
  | n, l, hn => by
    by_cases hc : c ∈ l
    · obtain ⟨a, r, rfl, ha⟩ := first_of c l hc
      have hcount : count (a ++ c :: r) [c] = count r [c] + 1 := by
        rw [count_one, count_one, List.count_append, List.count_cons_self, List.count_eq_zero_of_not_mem ha]; omega
      have hix : index (a ++ c :: r) [c] = (a.length : Int) := by rw [index_one]; exact indexByte_head c a r ha
      rw [hcount, splitC_head c a r [] ha]
      have hm : ¬ (index (a ++ c :: r) [c] == -1) = true := fun e => by have := beq_iff_eq.1 e; omega
      simp only [splitK]
      rw [if_neg hm, hix]
      cases n with
      | zero => simp at hn
      | succ n =>
        have hd : List.drop (a.length + 1) (a ++ c :: r) = r := by
          rw [List.drop_append, List.drop_eq_nil_of_le (by omega), show a.length + 1 - a.length = 1 by omega]; rfl
        simp only [Int.toNat_natCast, List.length_singleton, Nat.add_zero, List.take_left', hd, List.nil_append]
        rw [split_one c n r (by simp at hn; omega)]
    · have hcount : count l [c] = 0 := by rw [count_one]; exact List.count_eq_zero_of_not_mem hc
      rw [hcount, splitC_none c l [] hc]; rfl

end WM
/- Plain mathematics: runs of bytes, followed by two loops. -/
namespace WM
/-- the runs from i on give what the runs of s are -/
def AtR (s : ByteArray) (i : Nat) (st : Option Nat) (acc : List (Nat × Nat)) : Prop := ∃ f, s.size ≤ i + f ∧ runsB wordB s f i st acc = runsB wordB s s.size 0 none []
theorem AtR.start (s : ByteArray) : AtR s 0 none [] := ⟨s.size, by omega, rfl⟩
theorem AtR.no {s : ByteArray} {i : Nat} {st : Option Nat} {acc : List (Nat × Nat)} (h : AtR s i st acc) (hi : i < s.size) (hq : wordB (s.get! i) = false) : AtR s (i + 1) none (nxt acc st i) := by
  obtain ⟨f, hf, he⟩ := h
  cases f with
  | zero => omega
  | succ f => exact ⟨f, by omega, by rw [← he, runsB_no hi hq]⟩
theorem AtR.yes {s : ByteArray} {i : Nat} {st : Option Nat} {acc : List (Nat × Nat)} (h : AtR s i st acc) (hi : i < s.size) (hq : wordB (s.get! i) = true) : AtR s (i + 1) (some (st.getD i)) acc := by
  obtain ⟨f, hf, he⟩ := h
  cases f with
  | zero => omega
  | succ f => exact ⟨f, by omega, by rw [← he, runsB_yes hi hq]⟩
theorem AtR.stop {s : ByteArray} {i : Nat} {st : Option Nat} {acc : List (Nat × Nat)} (h : AtR s i st acc) (hi : ¬ i < s.size) : runs wordB s = Go.Lib.closeSpans s (acc, st) := by
  obtain ⟨f, hf, he⟩ := h
  unfold runs
  rw [← he, runsB_end _ _ _ _ _ _ hi]
/-- at the outer loop's head -/
def OutR (s : ByteArray) (i : Nat) (acc : List (Nat × Nat)) : Prop := (i ≤ s.size ∧ AtR s i none acc) ∨ (i = s.size + 1 ∧ acc = runs wordB s)
theorem OutR.le {s : ByteArray} {i : Nat} {acc : List (Nat × Nat)} (h : OutR s i acc) : i ≤ s.size + 1 := by rcases h with h | h <;> omega
theorem OutR.done {s : ByteArray} {i : Nat} {acc : List (Nat × Nat)} (h : OutR s i acc) (hi : ¬ i < s.size) : acc = runs wordB s := by
  rcases h with ⟨_, h⟩ | ⟨_, h⟩
  · rw [h.stop hi]; rfl
  · exact h
theorem OutR.at_ {s : ByteArray} {i : Nat} {acc : List (Nat × Nat)} (h : OutR s i acc) (hi : i < s.size) : AtR s i none acc := by
  rcases h with ⟨_, h⟩ | ⟨h, _⟩
  · exact h
  · omega
theorem OutR.skip {s : ByteArray} {i : Nat} {acc : List (Nat × Nat)} (h : OutR s i acc) (hi : i < s.size) (hq : wordB (s.get! i) = false) : OutR s (i + 1) acc := .inl ⟨by omega, (h.at_ hi).no hi hq⟩
/-- at the inner loop's head: a run that began at i -/
def InR (s : ByteArray) (i k : Nat) (acc : List (Nat × Nat)) : Prop := i < s.size ∧ i ≤ k ∧ k ≤ s.size ∧ wordB (s.get! i) = true ∧ ∃ st : Option Nat, st.getD k = i ∧ (st = none → k = i) ∧ AtR s k st acc
theorem InR.start {s : ByteArray} {i : Nat} {acc : List (Nat × Nat)} (h : OutR s i acc) (hi : i < s.size) (hq : wordB (s.get! i) = true) : InR s i i acc := ⟨hi, Nat.le_refl _, by omega, hq, none, rfl, fun _ => rfl, h.at_ hi⟩
theorem InR.more {s : ByteArray} {i k : Nat} {acc : List (Nat × Nat)} (h : InR s i k acc) (hk : k < s.size) (hq : wordB (s.get! k) = true) : InR s i (k + 1) acc := by
  obtain ⟨h1, h2, h3, h4, st, h5, h6, h7⟩ := h
  exact ⟨h1, by omega, by omega, h4, _, by simp [h5], (fun h => by cases h), h7.yes hk hq⟩
theorem InR.done {s : ByteArray} {i k : Nat} {acc : List (Nat × Nat)} (h : InR s i k acc) (hk : k < s.size → wordB (s.get! k) = false) : OutR s (k + 1) (acc ++ [(i, k)]) ∧ i < k ∧ k ≤ s.size := by
  obtain ⟨h1, h2, h3, h4, st, h5, h6, h7⟩ := h
  have hne : k ≠ i := by
    rintro rfl
    rw [hk h1] at h4; cases h4
  obtain ⟨a, rfl⟩ : ∃ a, st = some a := by
    cases st with
    | none => exact absurd (h6 rfl) hne
    | some a => exact ⟨a, rfl⟩
  have : a = i := h5
  subst this
  refine ⟨?_, by omega, h3⟩
  by_cases hlt : k < s.size
  · exact .inl ⟨by omega, h7.no hlt (hk hlt)⟩
  · exact .inr ⟨by omega, by rw [h7.stop hlt]; have : k = s.size := by omega
                             subst this; rfl⟩
end WM
