/- The marks of walks from number to number: what Circles keeps. Plain mathematics. -/
import Derived.Test.YthhfbcddjnjllaaGreatDoorFM
namespace Go.Proofs.YthhfbcddjnjllaaGreatDoor.FM
theorem count_set : ∀ (M : List Nat) (a v : Nat), M[a]? = some 0 → v ≠ 0 → (M.set a v).count 0 + 1 = M.count 0 := by
  intro M
  induction M with
  | nil => intro a v h; simp at h
  | cons m M ih =>
    intro a v h hv
    cases a with
    | zero =>
      simp at h
      subst h
      simp [hv]
    | succ a =>
      simp at h
      have := ih a v h hv
      simp only [List.set_cons_succ, List.count_cons]
      omega
/-- between two walks -/
structure Out (U : List (Option Nat)) (M : List Nat) (i c : Nat) : Prop where
  len : M.length = U.length
  less : ∀ x m : Nat, M[x]? = some m → m ≤ i
  old : c = 0 → ∀ x m : Nat, M[x]? = some m → m ≠ 0 → ends U x
  seen : c = 0 → ∀ x : Nat, x < i → M[x]? ≠ some 0
  found : 0 < c → cyc U
/-- in the walk from i on, behind b steps -/
structure In (U : List (Option Nat)) (M : List Nat) (i c : Nat) (at' : Option Nat) (b : Nat) : Prop where
  len : M.length = U.length
  less : ∀ x m : Nat, M[x]? = some m → m ≤ i + 1
  old : c = 0 → ∀ x m : Nat, M[x]? = some m → m ≠ 0 → m ≠ i + 1 → ends U x
  seen : c = 0 → ∀ x : Nat, x < i ∨ (x = i ∧ 0 < b) → M[x]? ≠ some 0
  found : 0 < c → cyc U
  here : up U b i = at'
  count : b + M.count 0 ≤ U.length
  mine : ∀ x : Nat, M[x]? = some (i + 1) → ∃ j, j < b ∧ up U j i = some x
theorem Out.start (U : List (Option Nat)) : Out U (List.replicate U.length 0) 0 0 :=
  ⟨by simp, fun x m h => by have := List.mem_of_getElem? h; simp at this; omega, fun _ x m h h0 => by have := List.mem_of_getElem? h; simp at this; omega, fun _ x h => by omega, fun h => by omega⟩
theorem Out.enter {U : List (Option Nat)} {M : List Nat} {i c : Nat} (h : Out U M i c) : In U M i c (some i) 0 :=
  ⟨h.len, fun x m hm => by have := h.less x m hm; omega, fun hc x m hm h0 _ => h.old hc x m hm h0, fun hc x hx => h.seen hc x (by omega), h.found, rfl, by have := List.count_le_length (a := 0) (l := M); have := h.len; omega, fun x hx => by have := h.less x _ hx; omega⟩
theorem In.step {U : List (Option Nat)} {M : List Nat} {i c a b : Nat} (h : In U M i c (some a) b) (h0 : M[a]? = some 0) : In U (M.set a (i + 1)) i c (nx U a) (b + 1) := by
  have hset : ∀ x m, (M.set a (i + 1))[x]? = some m → (x = a ∧ m = i + 1) ∨ (x ≠ a ∧ M[x]? = some m) := by
    intro x m hm
    rw [List.getElem?_set] at hm
    split at hm
    · rename_i e
      subst e
      split at hm
      · injection hm with hm; exact .inl ⟨rfl, hm.symm⟩
      · cases hm
    · rename_i e; exact .inr ⟨fun e' => e e'.symm, hm⟩
  refine ⟨by simp [h.len], ?_, ?_, ?_, h.found, by rw [up_succ, h.here]; rfl, ?_, ?_⟩
  · intro x m hm
    rcases hset x m hm with ⟨_, rfl⟩ | ⟨_, hm⟩
    · omega
    · exact h.less x m hm
  · intro hc x m hm h1 h2
    rcases hset x m hm with ⟨_, rfl⟩ | ⟨_, hm⟩
    · omega
    · exact h.old hc x m hm h1 h2
  · intro hc x hx hm
    rcases hset x 0 hm with ⟨_, e⟩ | ⟨hne, hm⟩
    · omega
    · refine h.seen hc x ?_ hm
      rcases hx with hx | ⟨rfl, _⟩
      · exact .inl hx
      · refine .inr ⟨rfl, ?_⟩
        rcases Nat.eq_zero_or_pos b with rfl | hb
        · have := h.here; injection this with this; exact absurd this hne
        · exact hb
  · have := count_set M a (i + 1) h0 (by omega)
    have := h.count
    omega
  · intro x hm
    rcases hset x _ hm with ⟨rfl, _⟩ | ⟨_, hm⟩
    · exact ⟨b, by omega, h.here⟩
    · obtain ⟨j, hj, h2⟩ := h.mine x hm
      exact ⟨j, by omega, h2⟩
theorem In.leave {U : List (Option Nat)} {M : List Nat} {i c b : Nat} {at' : Option Nat} (h : In U M i c at' b) (hi : i < U.length) (he : c = 0 → ends U i) (hs : at' = some i → M[i]? ≠ some 0) : Out U M (i + 1) c := by
  refine ⟨h.len, h.less, ?_, ?_, h.found⟩
  · intro hc x m hm h0
    by_cases e : m = i + 1
    · subst e
      obtain ⟨j, _, hj⟩ := h.mine x hm
      exact ends_up hj (he hc)
    · exact h.old hc x m hm h0 e
  · intro hc x hx hm
    by_cases e : x = i
    · subst e
      rcases Nat.eq_zero_or_pos b with rfl | hb
      · exact hs h.here.symm hm
      · exact h.seen hc x (.inr ⟨rfl, hb⟩) hm
    · exact h.seen hc x (.inl (by omega)) hm
theorem In.leave_none {U : List (Option Nat)} {M : List Nat} {i c b : Nat} (h : In U M i c none b) (hi : i < U.length) : Out U M (i + 1) c :=
  h.leave hi (fun _ => ⟨b, h.here⟩) (fun e => by cases e)
theorem In.leave_old {U : List (Option Nat)} {M : List Nat} {i c b a m : Nat} (h : In U M i c (some a) b) (hi : i < U.length) (hm : M[a]? = some m) (h0 : m ≠ 0) (h1 : m ≠ i + 1) : Out U M (i + 1) c :=
  h.leave hi (fun hc => ends_of_up h.here (h.old hc a m hm h0 h1)) (fun e => by injection e with e; subst e; rw [hm]; simpa using h0)
theorem In.leave_mine {U : List (Option Nat)} {M : List Nat} {i c b a : Nat} (hU : good U) (h : In U M i c (some a) b) (hi : i < U.length) (hm : M[a]? = some (i + 1)) : Out U M (i + 1) (c + 1) := by
  obtain ⟨j, hj, h2⟩ := h.mine a hm
  have hc := cyc_of hU hi hj (by have := h.count; omega) h2 h.here
  exact ⟨h.len, h.less, fun hc => by omega, fun hc => by omega, fun _ => hc⟩
theorem In.at_lt {U : List (Option Nat)} {M : List Nat} {i c b a : Nat} (hU : good U) (h : In U M i c (some a) b) (hi : i < U.length) : a < U.length := up_lt hU hi h.here
theorem In.measure {U : List (Option Nat)} {M : List Nat} {i c b a : Nat} {at' : Option Nat} (_h : In U M i c at' b) (h0 : M[a]? = some 0) : 0 < M.count 0 := by
  have := List.mem_of_getElem? h0
  exact List.count_pos_iff.2 this
theorem Out.done {U : List (Option Nat)} {M : List Nat} {c : Nat} (h : Out U M U.length c) : (0 < c ↔ cyc U) ∧ (c = 0 → ∀ i, i < U.length → ends U i) := by
  have hz : c = 0 → ∀ i, i < U.length → ends U i := by
    intro hc i hi
    have hl : i < M.length := by rw [h.len]; exact hi
    refine h.old hc i M[i] (List.getElem?_eq_getElem hl) (fun e => ?_)
    exact h.seen hc i hi (by rw [List.getElem?_eq_getElem hl, e])
  refine ⟨⟨h.found, fun hc => ?_⟩, hz⟩
  rcases Nat.eq_zero_or_pos c with h0 | h0
  · exact absurd hc (not_cyc_of (hz h0))
  · exact h0
end Go.Proofs.YthhfbcddjnjllaaGreatDoor.FM
