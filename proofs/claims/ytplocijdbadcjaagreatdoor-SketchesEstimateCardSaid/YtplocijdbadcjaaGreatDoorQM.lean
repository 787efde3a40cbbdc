/- What Quote, Unquote and Digest compute, on lists of bytes. -/
import Derived.KernelRfl
namespace Go.Proofs.YtplocijdbadcjaaGreatDoor.QM
def hexd (n : Nat) : UInt8 := if n < 10 then (48 + n).toUInt8 else (87 + n).toUInt8
/-- how Quote writes a byte -/
def qb (c : UInt8) : List UInt8 :=
  if c = 34 ∨ c = 92 then [92, c] else if c = 10 then [92, 110]
  else if c.toNat < 33 ∨ 127 ≤ c.toNat then [92, 120, hexd (c.toNat / 16), hexd (c.toNat % 16)] else [c]
def quote (l : List UInt8) : List UInt8 := 34 :: (l.flatMap qb ++ [34])
def unhex (c : UInt8) : Option Nat :=
  if 48 ≤ c.toNat ∧ c.toNat ≤ 57 then some (c.toNat - 48) else if 97 ≤ c.toNat ∧ c.toNat ≤ 102 then some (c.toNat - 87) else none
theorem all_u8 (p : UInt8 → Prop) (h : ∀ n : Fin 256, p (UInt8.ofNat n.val)) : ∀ c, p c := by
  intro c
  have := h ⟨c.toNat, c.toNat_lt⟩
  simpa using this
theorem unhex_hi : ∀ c : UInt8, unhex (hexd (c.toNat / 16)) = some (c.toNat / 16) := by
  apply all_u8; decide +kernel
theorem unhex_lo : ∀ c : UInt8, unhex (hexd (c.toNat % 16)) = some (c.toNat % 16) := by
  apply all_u8; decide +kernel
theorem qb_len : ∀ c : UInt8, 1 ≤ (qb c).length ∧ (qb c).length ≤ 4 := by
  apply all_u8; decide +kernel
/-- what 'unescape' may answer -/
def Unesc (s : List UInt8) (c : UInt8) : Prop := ∀ c0, qb c0 <+: s → c = c0
theorem unesc_a (a : UInt8) (r : List UInt8) (h : a ≠ 92 ∨ r = []) : Unesc (a :: r) a := by
  intro c0 hp
  unfold qb at hp
  split at hp
  · obtain ⟨t, ht⟩ := hp; simp at ht; rcases h with h | h
    · exact absurd ht.1.symm h
    · subst h; simp at ht
  split at hp
  · obtain ⟨t, ht⟩ := hp; simp at ht; rcases h with h | h
    · exact absurd ht.1.symm h
    · subst h; simp at ht
  split at hp
  · obtain ⟨t, ht⟩ := hp; simp at ht; rcases h with h | h
    · exact absurd ht.1.symm h
    · subst h; simp at ht
  · obtain ⟨t, ht⟩ := hp; simp at ht; exact ht.1.symm
theorem unesc_n (r : List UInt8) : Unesc (92 :: 110 :: r) 10 := by
  intro c0 hp
  unfold qb at hp
  split at hp
  · rename_i h; obtain ⟨t, ht⟩ := hp; simp at ht; rcases h with h | h <;> (rw [h] at ht; simp at ht)
  split at hp
  · rename_i h; exact h.symm
  split at hp
  · obtain ⟨t, ht⟩ := hp; simp at ht
  · rename_i h _ _; obtain ⟨t, ht⟩ := hp; simp at ht; exact absurd (.inr ht.1) h
theorem unesc_x (d e : UInt8) (r : List UInt8) (n : Nat) (hn : ∀ a b, unhex d = some a → unhex e = some b → n = 16 * a + b) : Unesc (92 :: 120 :: d :: e :: r) (UInt8.ofNat n) := by
  intro c0 hp
  unfold qb at hp
  split at hp
  · rename_i h; obtain ⟨t, ht⟩ := hp; simp at ht; rcases h with h | h <;> (rw [h] at ht; simp at ht)
  split at hp
  · obtain ⟨t, ht⟩ := hp; simp at ht
  split at hp
  · obtain ⟨t, ht⟩ := hp; simp at ht
    have h1 := unhex_hi c0
    have h2 := unhex_lo c0
    rw [ht.1] at h1; rw [ht.2.1] at h2
    have := hn _ _ h1 h2
    have e : n = c0.toNat := by omega
    rw [e]; simp
  · rename_i h _ _; obtain ⟨t, ht⟩ := hp; simp at ht; exact absurd (.inr ht.1) h
theorem unesc_o (d : UInt8) (r : List UInt8) (h1 : d ≠ 110) (h2 : d ≠ 120 ∨ r.length < 2) : Unesc (92 :: d :: r) d := by
  intro c0 hp
  unfold qb at hp
  split at hp
  · obtain ⟨t, ht⟩ := hp; simp at ht; exact ht.1.symm
  split at hp
  · obtain ⟨t, ht⟩ := hp; simp at ht; exact absurd ht.1.symm h1
  split at hp
  · obtain ⟨t, ht⟩ := hp; simp at ht
    rcases h2 with h2 | h2
    · exact absurd ht.1.symm h2
    · rw [← ht.2] at h2; simp at h2; omega
  · rename_i h _ _; obtain ⟨t, ht⟩ := hp; simp at ht; exact absurd (.inr ht.1) h
/-- the byte with whose quoted form a string begins -/
def first (s : List UInt8) : Option UInt8 := ((List.range 256).map UInt8.ofNat).find? fun c => (qb c).isPrefixOf s
theorem unesc_qb (c : UInt8) (r : List UInt8) : ∃ d, Unesc (qb c ++ r) d ∧ d = c := by
  have key : ∀ d, Unesc (qb c ++ r) d → d = c := fun d h => h c ⟨r, rfl⟩
  suffices h : ∃ d, Unesc (qb c ++ r) d by obtain ⟨d, h⟩ := h; exact ⟨d, h, key d h⟩
  unfold qb
  split
  · rename_i h
    rcases h with rfl | rfl
    · exact ⟨_, unesc_o 34 r (by decide) (.inl (by decide))⟩
    · exact ⟨_, unesc_o 92 r (by decide) (.inl (by decide))⟩
  split
  · exact ⟨_, unesc_n r⟩
  split
  · exact ⟨_, unesc_x _ _ r (((unhex (hexd (c.toNat / 16))).getD 0) * 16 + ((unhex (hexd (c.toNat % 16))).getD 0)) (by intro a b h1 h2; rw [h1, h2]; simp; omega)⟩
  · rename_i h _ _; exact ⟨_, unesc_a c r (.inl fun e => h (.inr e))⟩
theorem qb_inj {c d : UInt8} {s : List UInt8} (hc : qb c <+: s) (hd : qb d <+: s) : c = d := by
  obtain ⟨r, rfl⟩ := hc
  obtain ⟨e, h1, h2⟩ := unesc_qb c r
  exact h2.symm.trans (h1 d hd)
theorem mem_all : ∀ c : UInt8, c ∈ (List.range 256).map UInt8.ofNat := by
  intro c; exact List.mem_map.2 ⟨c.toNat, List.mem_range.2 c.toNat_lt, by simp⟩
theorem first_some {s : List UInt8} {c : UInt8} (h : qb c <+: s) : first s = some c := by
  unfold first
  cases hf : List.find? (fun c => (qb c).isPrefixOf s) ((List.range 256).map UInt8.ofNat) with
  | none =>
    have := List.find?_eq_none.1 hf c (mem_all c)
    simp [h] at this
  | some d =>
    have := List.find?_some hf
    rw [qb_inj h (by simpa using this)]
theorem first_none {s : List UInt8} (h : ∀ c, ¬ qb c <+: s) : first s = none := by
  unfold first
  refine List.find?_eq_none.2 fun c _ => ?_
  simpa using h c
theorem first_pre {s : List UInt8} {c : UInt8} (h : first s = some c) : qb c <+: s := by
  unfold first at h
  have := List.find?_some h
  simpa using this
/-- what Unquote reads behind the first quotation mark: fuel, what is left, what was read, how many bytes -/
def unq : Nat → List UInt8 → List UInt8 → Nat → Option (List UInt8 × Nat)
  | 0, _, _, _ => none
  | _ + 1, [], _, _ => none
  | f + 1, a :: l, acc, at_ =>
    if a = 34 then some (acc, at_ + 1) else
    match first (a :: l) with
    | some c => unq f ((a :: l).drop (qb c).length) (acc ++ [c]) (at_ + (qb c).length)
    | none => none
def unquote (s : List UInt8) : Option (List UInt8 × Nat) :=
  match s with
  | [] => none
  | a :: l => if a = 34 then unq (l.length + 1) l [] 1 else none
/-- the FNV-1a hash -/
def fnvStep (h : Nat) (b : UInt8) : Nat := ((h ^^^ b.toNat) * 1099511628211) % 18446744073709551616
def fnv0 : Nat := 14695981039346656037
def fnv (l : List UInt8) : Nat := l.foldl fnvStep fnv0
/-- the last n digits to the base 16 -/
def hexN : Nat → Nat → List UInt8
  | 0, _ => []
  | n + 1, h => hexN n (h / 16) ++ [hexd (h % 16)]
def digest (l : List UInt8) : List UInt8 := hexN 16 (fnv l)
theorem hexN_len (n : Nat) : ∀ h, (hexN n h).length = n := by
  induction n with
  | zero => intro h; rfl
  | succ n ih => intro h; simp [hexN, ih]
theorem hexN_cons (n : Nat) : ∀ h, hexN (n + 1) h = hexd ((h / 16 ^ n) % 16) :: hexN n h := by
  induction n with
  | zero => intro h; simp [hexN]
  | succ n ih =>
    intro h
    show hexN (n + 1) (h / 16) ++ [hexd (h % 16)] = _
    rw [ih]
    have e : h / 16 / 16 ^ n = h / 16 ^ (n + 1) := by rw [Nat.div_div_eq_div_mul, Nat.pow_succ, Nat.mul_comm]
    rw [e]
    rfl
theorem hexN_zeros (m : Nat) : ∀ n h, h < 16 ^ n → hexN (n + m) h = List.replicate m 48 ++ hexN n h := by
  induction m with
  | zero => intro n h _; rfl
  | succ m ih =>
    intro n h hh
    have hz : h / 16 ^ (n + m) = 0 := Nat.div_eq_of_lt (Nat.lt_of_lt_of_le hh (Nat.pow_le_pow_right (by omega) (by omega)))
    show hexN (n + m + 1) h = _
    rw [hexN_cons, hz, ih n h hh, List.replicate_succ]
    rfl
theorem fnvStep_lt (h : Nat) (b : UInt8) : fnvStep h b < 18446744073709551616 := by unfold fnvStep; exact Nat.mod_lt _ (by decide)
theorem foldl_lt : ∀ (l : List UInt8) (h : Nat), h < 18446744073709551616 → l.foldl fnvStep h < 18446744073709551616 := by
  intro l
  induction l with
  | nil => intro h hh; simpa using hh
  | cons a l ih => intro h _; rw [List.foldl_cons]; exact ih _ (fnvStep_lt h a)
theorem fnv_lt (l : List UInt8) : fnv l < 18446744073709551616 := by
  unfold fnv
  exact foldl_lt l _ (by decide)
theorem foldl_snoc {f : Nat → UInt8 → Nat} (l : List UInt8) (b : UInt8) (h : Nat) : (l ++ [b]).foldl f h = f (l.foldl f h) b := by rw [List.foldl_append, List.foldl_cons, List.foldl_nil]
theorem fnv_snoc (l : List UInt8) (b : UInt8) : fnv (l ++ [b]) = fnvStep (fnv l) b := foldl_snoc l b fnv0
theorem fnv_nil : fnv [] = 14695981039346656037 := by unfold fnv fnv0; rw [List.foldl_nil]
end Go.Proofs.YtplocijdbadcjaaGreatDoor.QM
