/- Spans: which bytes they have; right ones are told apart by their bytes. -/
namespace WM
/-- number i is in a span of the list -/
def cov (L : List (Int × Int)) (i : Int) : Prop := ∃ s, s ∈ L ∧ s.1 ≤ i ∧ i < s.2
/-- right spans: none is empty, and each ends before the next one begins -/
def sep : List (Int × Int) → Prop
  | [] => True
  | s :: L => s.1 < s.2 ∧ (∀ t, t ∈ L → s.2 < t.1) ∧ sep L
theorem cov_nil (i : Int) : ¬ cov [] i := fun ⟨_, h, _⟩ => by cases h
theorem cov_cons (s : Int × Int) (L : List (Int × Int)) (i : Int) : cov (s :: L) i ↔ (s.1 ≤ i ∧ i < s.2) ∨ cov L i := by
  constructor
  · rintro ⟨t, ht, h⟩
    rcases List.mem_cons.1 ht with rfl | ht
    · exact .inl h
    · exact .inr ⟨t, ht, h⟩
  · rintro (h | ⟨t, ht, h⟩)
    · exact ⟨s, List.mem_cons_self, h⟩
    · exact ⟨t, List.mem_cons_of_mem _ ht, h⟩
theorem cov_append (K L : List (Int × Int)) (i : Int) : cov (K ++ L) i ↔ cov K i ∨ cov L i := by
  constructor
  · rintro ⟨t, ht, h⟩
    rcases List.mem_append.1 ht with ht | ht
    · exact .inl ⟨t, ht, h⟩
    · exact .inr ⟨t, ht, h⟩
  · rintro (⟨t, ht, h⟩ | ⟨t, ht, h⟩)
    · exact ⟨t, List.mem_append_left _ ht, h⟩
    · exact ⟨t, List.mem_append_right _ ht, h⟩
theorem cov_one (s : Int × Int) (i : Int) : cov [s] i ↔ (s.1 ≤ i ∧ i < s.2) := by
  rw [cov_cons]
  exact ⟨fun h => h.resolve_right (cov_nil i), .inl⟩
theorem cov_mem {L : List (Int × Int)} {s : Int × Int} (h : s ∈ L) {i : Int} (h1 : s.1 ≤ i) (h2 : i < s.2) : cov L i := ⟨s, h, h1, h2⟩
theorem sep_ne : ∀ {L : List (Int × Int)}, sep L → ∀ s, s ∈ L → s.1 < s.2
  | s :: L, h, t, ht => by
    rcases List.mem_cons.1 ht with rfl | ht
    · exact h.1
    · exact sep_ne h.2.2 t ht
theorem sep_snoc : ∀ {L : List (Int × Int)} {s : Int × Int}, sep L → s.1 < s.2 → (∀ t, t ∈ L → t.2 < s.1) → sep (L ++ [s])
  | [], s, _, h1, _ => ⟨h1, (fun t ht => by cases ht), trivial⟩
  | t :: L, s, h, h1, h2 => ⟨h.1, fun u hu => by
      rcases List.mem_append.1 hu with hu | hu
      · exact h.2.1 u hu
      · rw [List.mem_singleton.1 hu]; exact h2 t List.mem_cons_self, sep_snoc h.2.2 h1 fun u hu => h2 u (List.mem_cons_of_mem _ hu)⟩
theorem sep_left : ∀ {K L : List (Int × Int)}, sep (K ++ L) → sep K
  | [], _, _ => trivial
  | _ :: _, _, h => ⟨h.1, fun t ht => h.2.1 t (List.mem_append_left _ ht), sep_left h.2.2⟩
theorem sep_right : ∀ {K L : List (Int × Int)}, sep (K ++ L) → sep L
  | [], _, h => h
  | _ :: K, _, h => sep_right (K := K) h.2.2
theorem sep_last : ∀ {K : List (Int × Int)} {s : Int × Int}, sep (K ++ [s]) → s.1 < s.2 ∧ ∀ t, t ∈ K → t.2 < s.1
  | [], s, h => ⟨h.1, fun t ht => by cases ht⟩
  | u :: K, s, h => by
    have ih := sep_last (K := K) h.2.2
    refine ⟨ih.1, fun t ht => ?_⟩
    rcases List.mem_cons.1 ht with rfl | ht
    · exact h.2.1 s (by simp)
    · exact ih.2 t ht
theorem sep_mid {K L : List (Int × Int)} {s : Int × Int} (h : sep (K ++ s :: L)) : s.1 < s.2 ∧ (∀ t, t ∈ K → t.2 < s.1) ∧ (∀ t, t ∈ L → s.2 < t.1) := by
  have h1 : sep ((K ++ [s]) ++ L) := by simpa using h
  have h2 := sep_last (sep_left h1)
  exact ⟨h2.1, h2.2, (sep_right h).2.1⟩
theorem sep_uniq : ∀ {L M : List (Int × Int)}, sep L → sep M → (∀ i, cov L i ↔ cov M i) → L = M
  | [], [], _, _, _ => rfl
  | [], m :: M, _, hM, h => absurd ((h m.1).2 ((cov_cons _ _ _).2 (.inl ⟨Int.le_refl _, hM.1⟩))) (cov_nil _)
  | l :: L, [], hL, _, h => absurd ((h l.1).1 ((cov_cons _ _ _).2 (.inl ⟨Int.le_refl _, hL.1⟩))) (cov_nil _)
  | l :: L, m :: M, hL, hM, h => by
    have lo : ∀ {s : Int × Int} {K : List (Int × Int)}, sep (s :: K) → ∀ i, cov (s :: K) i → s.1 ≤ i := fun {s K} hK i hi => by
      rcases (cov_cons _ _ _).1 hi with hi | ⟨t, ht, hi⟩
      · exact hi.1
      · have := hK.1; have := hK.2.1 t ht; omega
    have gap : ∀ {s : Int × Int} {K : List (Int × Int)}, sep (s :: K) → ¬ cov (s :: K) s.2 := fun {s K} hK hi => by
      rcases (cov_cons _ _ _).1 hi with hi | ⟨t, ht, hi⟩
      · omega
      · have := hK.2.1 t ht; omega
    have e1 : m.1 ≤ l.1 := lo hM _ ((h l.1).1 ((cov_cons _ _ _).2 (.inl ⟨Int.le_refl _, hL.1⟩)))
    have e2 : l.1 ≤ m.1 := lo hL _ ((h m.1).2 ((cov_cons _ _ _).2 (.inl ⟨Int.le_refl _, hM.1⟩)))
    have g1 : ¬ (m.1 ≤ l.2 ∧ l.2 < m.2) := fun g => gap hL ((h l.2).2 ((cov_cons _ _ _).2 (.inl g)))
    have g2 : ¬ (l.1 ≤ m.2 ∧ m.2 < l.2) := fun g => gap hM ((h m.2).1 ((cov_cons _ _ _).2 (.inl g)))
    have hl := hL.1
    have hm := hM.1
    obtain ⟨l1, l2⟩ := l
    obtain ⟨m1, m2⟩ := m
    dsimp only at e1 e2 g1 g2 hl hm
    obtain rfl : l1 = m1 := by omega
    obtain rfl : l2 = m2 := by omega
    have tail : ∀ {A B : List (Int × Int)}, sep ((l1, l2) :: A) → (∀ i, cov ((l1, l2) :: A) i → cov ((l1, l2) :: B) i) → ∀ i, cov A i → cov B i := fun {A B} hA hi i hc => by
      obtain ⟨t, ht, hc1, hc2⟩ := id hc
      have := hA.2.1 t ht
      rcases (cov_cons _ _ _).1 (hi i ((cov_cons _ _ _).2 (.inr hc))) with h3 | h3
      · dsimp only at *; omega
      · exact h3
    rw [sep_uniq hL.2.2 hM.2.2 fun i => ⟨tail hL (fun j => (h j).1) i, tail hM (fun j => (h j).2) i⟩]
/-- the last span is made longer, up to q -/
theorem sep_stretch {K : List (Int × Int)} {p q q' : Int} (h : sep (K ++ [(p, q)])) (hq : q ≤ q') : sep (K ++ [(p, q')]) := by
  have hl := sep_last h
  dsimp only at hl
  exact sep_snoc (sep_left h) (by dsimp only; omega) hl.2
theorem cov_stretch {K : List (Int × Int)} {p q : Int} (i : Int) : cov (K ++ [(p, q)]) i ↔ cov K i ∨ (p ≤ i ∧ i < q) := by
  rw [cov_append, cov_one]

/-- the spans of a list, put together in their order: what lies in the first n of them -/
structure Tog (S A : List (Int × Int)) : Prop where
  sep : sep A
  cov : ∀ i, cov A i ↔ cov S i
  from_ : ∀ t, t ∈ A → ∃ s, s ∈ S ∧ s.1 = t.1
  len : A.length ≤ S.length
theorem Tog.start : Tog [] [] := ⟨trivial, fun _ => Iff.rfl, (fun t ht => by cases ht), Nat.le_refl _⟩
theorem Tog.new {S A : List (Int × Int)} {s : Int × Int} (h : Tog S A) (hs : s.1 < s.2) (hA : ∀ t, t ∈ A → t.2 < s.1) : Tog (S ++ [s]) (A ++ [s]) :=
  ⟨sep_snoc h.sep hs hA, fun i => by rw [cov_append, cov_append, h.cov], fun t ht => by
    rcases List.mem_append.1 ht with ht | ht
    · obtain ⟨u, hu, e⟩ := h.from_ t ht
      exact ⟨u, List.mem_append_left _ hu, e⟩
    · exact ⟨s, List.mem_append_right _ (by simp), by rw [List.mem_singleton.1 ht]⟩, by simp; exact h.len⟩
theorem Tog.join {S K : List (Int × Int)} {p q : Int} {s : Int × Int} (h : Tog S (K ++ [(p, q)])) (h1 : s.1 ≤ q) (h2 : ∀ t, t ∈ S → t.1 ≤ s.1) : Tog (S ++ [s]) (K ++ [(p, max q s.2)]) :=
  ⟨sep_stretch h.sep (by omega), fun i => by
    obtain ⟨u, hu, e⟩ := h.from_ (p, q) (by simp)
    have h3 := h2 u hu
    dsimp only at e
    have h4 := (sep_last h.sep).1
    dsimp only at h4
    rw [cov_stretch, cov_append, ← h.cov, cov_stretch, cov_one]
    constructor
    · rintro (h5 | h5)
      · exact .inl (.inl h5)
      · by_cases h6 : i < q
        · exact .inl (.inr ⟨h5.1, h6⟩)
        · exact .inr ⟨by omega, by omega⟩
    · rintro ((h5 | h5) | h5)
      · exact .inl h5
      · exact .inr ⟨h5.1, by omega⟩
      · exact .inr ⟨by omega, by omega⟩, fun t ht => by
    rcases List.mem_append.1 ht with ht | ht
    · obtain ⟨u, hu, e⟩ := h.from_ t (List.mem_append_left _ ht)
      exact ⟨u, List.mem_append_left _ hu, e⟩
    · obtain ⟨u, hu, e⟩ := h.from_ (p, q) (by simp)
      exact ⟨u, List.mem_append_left _ hu, by rw [List.mem_singleton.1 ht]; exact e⟩, by have := h.len; simp at this ⊢; omega⟩

/-- the bytes of the first n that have p, as spans -/
structure Ran (p : Nat → Bool) (n : Nat) (A : List (Int × Int)) : Prop where
  sep : sep A
  cov : ∀ i, cov A i ↔ ∃ k : Nat, i = k ∧ k < n ∧ p k = true
  end_ : ∀ t, t ∈ A → t.2 ≤ n
theorem Ran.start (p : Nat → Bool) : Ran p 0 [] := ⟨trivial, fun i => ⟨fun h => absurd h (cov_nil _), fun ⟨k, _, h, _⟩ => by omega⟩, fun t ht => by cases ht⟩
theorem Ran.off {p : Nat → Bool} {n : Nat} {A : List (Int × Int)} (h : Ran p n A) (hp : p n = false) : Ran p (n + 1) A :=
  ⟨h.sep, fun i => by
    rw [h.cov]
    constructor
    · rintro ⟨k, e, hk, hq⟩; exact ⟨k, e, by omega, hq⟩
    · rintro ⟨k, e, hk, hq⟩
      have : k ≠ n := fun e => by rw [e, hp] at hq; cases hq
      exact ⟨k, e, by omega, hq⟩, fun t ht => by have := h.end_ t ht; omega⟩
theorem Ran.new {p : Nat → Bool} {n : Nat} {A : List (Int × Int)} (h : Ran p n A) (hp : p n = true) (hb : n = 0 ∨ p (n - 1) = false) : Ran p (n + 1) (A ++ [((n : Int), (n : Int) + 1)]) :=
  ⟨sep_snoc h.sep (by dsimp only; omega) (fun t ht => by
    have h1 := h.end_ t ht
    have h2 := sep_ne h.sep t ht
    dsimp only
    rcases hb with rfl | hb
    · have h4 := (h.cov t.1).1 (cov_mem ht (Int.le_refl _) h2)
      obtain ⟨k, _, hk, _⟩ := h4
      omega
    · rcases Int.lt_or_le t.2 n with h3 | h3
      · exact h3
      · obtain ⟨k, e, hk, hq⟩ := (h.cov (t.2 - 1)).1 (cov_mem ht (by omega) (by omega))
        obtain rfl : k = n - 1 := by omega
        rw [hb] at hq; cases hq), fun i => by
    rw [cov_append, cov_one, h.cov]
    constructor
    · rintro (⟨k, e, hk, hq⟩ | ⟨h1, h2⟩)
      · exact ⟨k, e, by omega, hq⟩
      · exact ⟨n, by dsimp only at h1 h2; omega, by omega, hp⟩
    · rintro ⟨k, e, hk, hq⟩
      by_cases e2 : k = n
      · exact .inr (by dsimp only; omega)
      · exact .inl ⟨k, e, by omega, hq⟩, fun t ht => by
    rcases List.mem_append.1 ht with ht | ht
    · have := h.end_ t ht; omega
    · rw [List.mem_singleton.1 ht]; dsimp only; omega⟩
theorem Ran.more {p : Nat → Bool} {n : Nat} {A : List (Int × Int)} (h : Ran p n A) (hp : p n = true) (hb : p (n - 1) = true) (h0 : n ≠ 0) : ∃ K q, A = K ++ [(q, (n : Int))] ∧ Ran p (n + 1) (K ++ [(q, (n : Int) + 1)]) := by
  have hc := (h.cov (n - 1 : Nat)).2 ⟨n - 1, rfl, by omega, hb⟩
  rcases List.eq_nil_or_concat A with rfl | ⟨K, ⟨q, z⟩, rfl⟩
  · exact absurd hc (cov_nil _)
  · rw [List.concat_eq_append] at *
    have hl := sep_last h.sep
    have he := h.end_ (q, z) (by simp)
    dsimp only at hl he
    obtain ⟨t, ht, h1, h2⟩ := hc
    have hz : z = n := by
      rcases List.mem_append.1 ht with ht | ht
      · have h4 := hl.2 t ht
        have h5 := h.cov (z - 1)
        omega
      · obtain rfl := List.mem_singleton.1 ht
        dsimp only at h1 h2
        omega
    subst hz
    refine ⟨K, q, rfl, sep_stretch h.sep (by omega), fun i => ?_, fun t ht => ?_⟩
    · rw [cov_stretch]
      have h6 := h.cov i
      rw [cov_stretch] at h6
      constructor
      · rintro (h7 | h7)
        · obtain ⟨k, e, hk, hq⟩ := h6.1 (.inl h7)
          exact ⟨k, e, by omega, hq⟩
        · by_cases h8 : i < n
          · obtain ⟨k, e, hk, hq⟩ := h6.1 (.inr ⟨h7.1, h8⟩)
            exact ⟨k, e, by omega, hq⟩
          · exact ⟨n, by omega, by omega, hp⟩
      · rintro ⟨k, e, hk, hq⟩
        by_cases e2 : k = n
        · exact .inr ⟨by omega, by omega⟩
        · rcases h6.2 ⟨k, e, by omega, hq⟩ with h7 | h7
          · exact .inl h7
          · exact .inr ⟨h7.1, by omega⟩
    · rcases List.mem_append.1 ht with ht | ht
      · have := h.end_ t (List.mem_append_left _ ht); omega
      · rw [List.mem_singleton.1 ht]; dsimp only; omega

/-- the bytes of the spans S that none of B has -/
structure WoD (S B A : List (Int × Int)) : Prop where
  sep : sep A
  cov : ∀ i, cov A i ↔ cov S i ∧ ¬ cov B i
  end_ : ∀ t, t ∈ A → ∃ s, s ∈ S ∧ t.2 ≤ s.2
  len : A.length ≤ S.length * (B.length + 1)
theorem WoD.start (B : List (Int × Int)) : WoD [] B [] := ⟨trivial, fun i => ⟨fun h => absurd h (cov_nil _), fun h => absurd h.1 (cov_nil _)⟩, (fun t ht => by cases ht), by simp⟩
/-- .. how far it has come in the span s: f, T of B looked at -/
structure Wo (S B T : List (Int × Int)) (s : Int × Int) (f : Int) (A : List (Int × Int)) : Prop where
  sep : sep A
  cov : ∀ i, cov A i ↔ (cov S i ∧ ¬ cov B i) ∨ (s.1 ≤ i ∧ i < s.2 ∧ i < f ∧ ¬ cov T i)
  from_ : ∀ t, t ∈ A → t.2 < f
  seen : ∀ t, t ∈ T → t.2 ≤ f ∨ s.2 ≤ t.1
  at_ : s.1 ≤ f
  end_ : ∀ t, t ∈ A → t.2 ≤ s.2
  lo : f = s.1 ∨ ∃ u, u ∈ T ∧ u.2 = f
  len : A.length ≤ S.length * (B.length + 1) + T.length
theorem Wo.start {S B A : List (Int × Int)} {s : Int × Int} (h : WoD S B A) (hs : s.1 < s.2) (hS : ∀ t, t ∈ S → t.2 < s.1) : Wo S B [] s s.1 A :=
  ⟨h.sep, fun i => by
    rw [h.cov]
    exact ⟨.inl, fun h => h.resolve_right (by omega)⟩, fun t ht => by
    obtain ⟨u, hu, h1⟩ := h.end_ t ht
    have := hS u hu; omega, (fun t ht => by cases ht), Int.le_refl _, fun t ht => by
    obtain ⟨u, hu, h1⟩ := h.end_ t ht
    have := hS u hu; omega, .inl rfl, by have := h.len; simp; omega⟩
theorem Wo.skip {S B T A : List (Int × Int)} {s t : Int × Int} {f : Int} (h : Wo S B T s f A) (ht : t.2 ≤ f ∨ s.2 ≤ t.1) (hT : ∀ u, u ∈ T → u.2 < t.1) (htn : t.1 < t.2) : Wo S B (T ++ [t]) s f A :=
  ⟨h.sep, fun i => by
    rw [h.cov]
    have hn : s.1 ≤ i → i < s.2 → i < f → ¬ (t.1 ≤ i ∧ i < t.2) := fun h1 h2 h3 h4 => by
      rcases ht with ht | ht
      · rcases h.lo with hlo | ⟨u, hu, e⟩
        · omega
        · have := hT u hu; omega
      · omega
    constructor
    · rintro (h1 | ⟨h1, h2, h3, h4⟩)
      · exact .inl h1
      · exact .inr ⟨h1, h2, h3, fun h5 => by
          rcases (cov_append _ _ _).1 h5 with h5 | h5
          · exact h4 h5
          · exact hn h1 h2 h3 ((cov_one _ _).1 h5)⟩
    · rintro (h1 | ⟨h1, h2, h3, h4⟩)
      · exact .inl h1
      · exact .inr ⟨h1, h2, h3, fun h5 => h4 ((cov_append _ _ _).2 (.inl h5))⟩, h.from_, (fun u hu => by
    rcases List.mem_append.1 hu with hu | hu
    · exact h.seen u hu
    · rw [List.mem_singleton.1 hu]; exact ht), h.at_, h.end_, by
    rcases h.lo with h1 | ⟨u, hu, e⟩
    · exact .inl h1
    · exact .inr ⟨u, List.mem_append_left _ hu, e⟩, by have := h.len; simp; omega⟩
theorem Wo.jump {S B T A : List (Int × Int)} {s t : Int × Int} {f : Int} (h : Wo S B T s f A) (h1 : f < t.2) (h2 : t.1 ≤ f) (_h3 : t.1 < s.2) (hT : ∀ u, u ∈ T → u.2 < t.1) : Wo S B (T ++ [t]) s t.2 A := by
  have hf : f = s.1 := by
    rcases h.lo with h4 | ⟨u, hu, e⟩
    · exact h4
    · have := hT u hu; omega
  refine ⟨h.sep, fun i => ?_, fun u hu => by have := h.from_ u hu; omega, fun u hu => ?_, by have := h.at_; omega, h.end_, .inr ⟨t, by simp, rfl⟩, by have := h.len; simp; omega⟩
  · rw [h.cov]
    constructor
    · rintro (h4 | ⟨h4, h5, h6, h7⟩)
      · exact .inl h4
      · omega
    · rintro (h4 | ⟨h4, h5, h6, h7⟩)
      · exact .inl h4
      · exact absurd ((cov_append _ _ _).2 (.inr ((cov_one _ _).2 ⟨by omega, h6⟩))) h7
  · rcases List.mem_append.1 hu with hu | hu
    · rcases h.seen u hu with h4 | h4
      · exact .inl (by omega)
      · exact .inr h4
    · rw [List.mem_singleton.1 hu]; exact .inl (Int.le_refl _)
theorem Wo.cut {S B T A : List (Int × Int)} {s t : Int × Int} {f : Int} (h : Wo S B T s f A) (h1 : f < t.1) (h2 : t.1 < t.2) (h3 : t.1 < s.2) : Wo S B (T ++ [t]) s t.2 (A ++ [(f, t.1)]) := by
  refine ⟨sep_snoc h.sep h1 h.from_, fun i => ?_, fun u hu => ?_, fun u hu => ?_, by have := h.at_; omega, fun u hu => ?_, .inr ⟨t, by simp, rfl⟩, by have := h.len; simp; omega⟩
  · have hat := h.at_
    rw [cov_append, cov_one, h.cov]
    constructor
    · rintro ((h4 | ⟨h4, h5, h6, h7⟩) | ⟨h4, h5⟩)
      · exact .inl h4
      · refine .inr ⟨h4, h5, by omega, fun h8 => ?_⟩
        rcases (cov_append _ _ _).1 h8 with h8 | h8
        · exact h7 h8
        · have := (cov_one _ _).1 h8; omega
      · dsimp only at h4 h5
        refine .inr ⟨by omega, by omega, by omega, fun h8 => ?_⟩
        rcases (cov_append _ _ _).1 h8 with ⟨u, hu, h9, h10⟩ | h8
        · have := h.seen u hu; omega
        · have := (cov_one _ _).1 h8; omega
    · rintro (h4 | ⟨h4, h5, h6, h7⟩)
      · exact .inl (.inl h4)
      · by_cases h8 : i < f
        · exact .inl (.inr ⟨h4, h5, h8, fun h9 => h7 ((cov_append _ _ _).2 (.inl h9))⟩)
        · refine .inr ⟨by dsimp only; omega, ?_⟩
          dsimp only
          rcases Int.lt_or_le i t.1 with h9 | h9
          · exact h9
          · exact absurd ((cov_append _ _ _).2 (.inr ((cov_one _ _).2 ⟨h9, h6⟩))) h7
  · rcases List.mem_append.1 hu with hu | hu
    · have := h.from_ u hu; omega
    · rw [List.mem_singleton.1 hu]; exact h2
  · rcases List.mem_append.1 hu with hu | hu
    · rcases h.seen u hu with h4 | h4
      · exact .inl (by omega)
      · exact .inr h4
    · rw [List.mem_singleton.1 hu]; exact .inl (Int.le_refl _)
  · rcases List.mem_append.1 hu with hu | hu
    · exact h.end_ u hu
    · rw [List.mem_singleton.1 hu]; dsimp only; omega
theorem Wo.done {S B A : List (Int × Int)} {s : Int × Int} {f : Int} (h : Wo S B B s f A) (h1 : s.2 ≤ f) : WoD (S ++ [s]) B A :=
  ⟨h.sep, fun i => by
    rw [h.cov, cov_append, cov_one]
    constructor
    · rintro (h2 | ⟨h2, h3, h4, h5⟩)
      · exact ⟨.inl h2.1, h2.2⟩
      · exact ⟨.inr ⟨h2, h3⟩, h5⟩
    · rintro ⟨h2 | h2, h3⟩
      · exact .inl ⟨h2, h3⟩
      · exact .inr ⟨h2.1, h2.2, by omega, h3⟩, fun t ht => ⟨s, by simp, h.end_ t ht⟩, by have := h.len; simp [Nat.add_mul]; omega⟩
theorem Wo.rest {S B A : List (Int × Int)} {s : Int × Int} {f : Int} (h : Wo S B B s f A) (h1 : f < s.2) : WoD (S ++ [s]) B (A ++ [(f, s.2)]) := by
  have hat := h.at_
  refine ⟨sep_snoc h.sep h1 h.from_, fun i => ?_, fun t ht => ⟨s, by simp, ?_⟩, by have := h.len; simp [Nat.add_mul]; omega⟩
  · rw [cov_append, cov_one, h.cov, cov_append, cov_one]
    constructor
    · rintro ((h2 | ⟨h2, h3, h4, h5⟩) | ⟨h2, h3⟩)
      · exact ⟨.inl h2.1, h2.2⟩
      · exact ⟨.inr ⟨h2, h3⟩, h5⟩
      · dsimp only at h2 h3
        exact ⟨.inr ⟨by omega, h3⟩, fun ⟨u, hu, h9, h10⟩ => by have := h.seen u hu; omega⟩
    · rintro ⟨h2 | h2, h3⟩
      · exact .inl (.inl ⟨h2, h3⟩)
      · by_cases h4 : i < f
        · exact .inl (.inr ⟨h2.1, h2.2, h4, h3⟩)
        · exact .inr ⟨by dsimp only; omega, h2.2⟩
  · rcases List.mem_append.1 ht with ht | ht
    · exact h.end_ t ht
    · rw [List.mem_singleton.1 ht]; exact Int.le_refl _
end WM
