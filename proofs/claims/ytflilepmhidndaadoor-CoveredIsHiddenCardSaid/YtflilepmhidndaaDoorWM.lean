/- Plain mathematics of words: the longest runs of bytes that pass a test; pieces between bytes. -/
import Derived.Lib.FieldsP
import Derived.Lib.MapLaws
import Derived.Lib.SplitLaws
namespace WM
open Go.Lib

def nxt (acc : List (Nat × Nat)) (st : Option Nat) (pos : Nat) : List (Nat × Nat) := match st with | some a => acc ++ [(a, pos)] | none => acc
/-- the longest runs of bytes that pass q, from pos on; st: where the run at hand begins -/
def runsB (q : UInt8 → Bool) (s : ByteArray) : Nat → Nat → Option Nat → List (Nat × Nat) → List (Nat × Nat) × Option Nat
  | 0, _, st, acc => (acc, st)
  | f + 1, pos, st, acc =>
    if pos < s.size then (if q (s.get! pos) then runsB q s f (pos + 1) (some (st.getD pos)) acc else runsB q s f (pos + 1) none (nxt acc st pos)) else (acc, st)
def runs (q : UInt8 → Bool) (s : ByteArray) : List (Nat × Nat) := closeSpans s (runsB q s s.size 0 none [])

theorem runsB_end (q : UInt8 → Bool) (s : ByteArray) (f pos : Nat) (st : Option Nat) (acc : List (Nat × Nat)) (h : ¬ pos < s.size) : runsB q s f pos st acc = (acc, st) := by
  cases f <;> simp [runsB, h]
theorem runsB_yes {q : UInt8 → Bool} {s : ByteArray} {pos : Nat} (h : pos < s.size) (hq : q (s.get! pos) = true) (f : Nat) (st : Option Nat) (acc : List (Nat × Nat)) :
    runsB q s (f + 1) pos st acc = runsB q s f (pos + 1) (some (st.getD pos)) acc := by simp [runsB, h, hq]
theorem runsB_no {q : UInt8 → Bool} {s : ByteArray} {pos : Nat} (h : pos < s.size) (hq : q (s.get! pos) = false) (f : Nat) (st : Option Nat) (acc : List (Nat × Nat)) :
    runsB q s (f + 1) pos st acc = runsB q s f (pos + 1) none (nxt acc st pos) := by simp [runsB, h, hq]

theorem spans_yes {p : Nat → Bool} {s : ByteArray} {pos : Nat} (h : pos < s.size) (hp : p (Go.Utf8.decode s pos).1 = false) (f : Nat) (st : Option Nat) (acc : List (Nat × Nat)) :
    spansFromP p s (f + 1) pos st acc = spansFromP p s f (pos + (Go.Utf8.decode s pos).2) (some (st.getD pos)) acc := by
  cases st <;> simp [spansFromP, h, hp]
theorem spans_no {p : Nat → Bool} {s : ByteArray} {pos : Nat} (h : pos < s.size) (hp : p (Go.Utf8.decode s pos).1 = true) (f : Nat) (st : Option Nat) (acc : List (Nat × Nat)) :
    spansFromP p s (f + 1) pos st acc = spansFromP p s f (pos + (Go.Utf8.decode s pos).2) none (nxt acc st pos) := by
  cases st <;> simp [spansFromP, h, hp, nxt]

/-- a test of runes that is one of bytes below 128 and takes all others -/
structure Tests (p : Nat → Bool) (q : UInt8 → Bool) : Prop where
  low : ∀ r, r < 128 → p r = !q (UInt8.ofNat r)
  high : ∀ r, 128 ≤ r → p r = false
  bytes : ∀ b : UInt8, 128 ≤ b.toNat → q b = true

theorem yes_n {q : UInt8 → Bool} {s : ByteArray} (acc : List (Nat × Nat)) : ∀ (k f pos a : Nat), (∀ j, j < k → pos + j < s.size ∧ q (s.get! (pos + j)) = true) → runsB q s (f + k) pos (some a) acc = runsB q s f (pos + k) (some a) acc
  | 0, f, pos, a, _ => rfl
  | k + 1, f, pos, a, h => by
    have h0 : pos < s.size ∧ q (s.get! pos) = true := h 0 (by omega)
    rw [show f + (k + 1) = (f + k) + 1 by omega, runsB_yes h0.1 h0.2, show (some a).getD pos = a from rfl, yes_n acc k f (pos + 1) a (fun j hj => by have := h (j + 1) (by omega); rwa [show pos + 1 + j = pos + (j + 1) by omega])]
    congr 1; omega

theorem spans_runs {p : Nat → Bool} {q : UInt8 → Bool} (T : Tests p q) (s : ByteArray) : ∀ (n f f' pos : Nat) (st : Option Nat) (acc : List (Nat × Nat)), s.size ≤ pos + n → s.size ≤ pos + f → s.size ≤ pos + f' → spansFromP p s f pos st acc = runsB q s f' pos st acc
  | 0, f, f', pos, st, acc, h, _, _ => by rw [spansFromP_end _ _ _ _ _ _ (by omega), runsB_end _ _ _ _ _ _ (by omega)]
  | n + 1, f, f', pos, st, acc, h, hf, hf' => by
    rcases Nat.lt_or_ge pos s.size with hlt | hlt'
    rotate_left
    · have hlt : ¬ pos < s.size := Nat.not_lt.2 hlt'
      rw [spansFromP_end _ _ _ _ _ _ hlt, runsB_end _ _ _ _ _ _ hlt]
    obtain ⟨g, rfl⟩ : ∃ g, f = g + 1 := ⟨f - 1, by omega⟩
    obtain ⟨g', rfl⟩ : ∃ g', f' = g' + 1 := ⟨f' - 1, by omega⟩
    have hd := decode_at s pos
    by_cases hb : (s.get! pos).toNat < 128
    · have hd1 : Go.Utf8.decode s pos = ((s.get! pos).toNat, 1) := by rw [hd]; unfold decodeN; rw [if_pos hb]
      have hp := T.low _ hb
      rw [show UInt8.ofNat (s.get! pos).toNat = s.get! pos by simp] at hp
      cases hq : q (s.get! pos)
      · rw [hq] at hp
        rw [spans_no hlt (by rw [hd1]; exact hp), runsB_no hlt hq, hd1]
        exact spans_runs T s n g g' (pos + 1) none _ (by omega) (by omega) (by omega)
      · rw [hq] at hp
        rw [spans_yes hlt (by rw [hd1]; exact hp), runsB_yes hlt hq, hd1]
        exact spans_runs T s n g g' (pos + 1) _ _ (by omega) (by omega) (by omega)
    · have hq0 : q (s.get! pos) = true := T.bytes _ (by omega)
      have fin : ∀ k, 1 ≤ k → k ≤ s.size - pos → 128 ≤ (Go.Utf8.decode s pos).1 → (Go.Utf8.decode s pos).2 = k → (∀ j, 1 ≤ j → j < k → q (s.get! (pos + j)) = true) →
          spansFromP p s (g + 1) pos st acc = runsB q s (g' + 1) pos st acc := by
        intro k hk hks hr hw hqs
        rw [spans_yes hlt (T.high _ hr), hw]
        have e := yes_n (s := s) (q := q) acc (k - 1) (g' - (k - 1)) (pos + 1) (st.getD pos) (fun j hj => ⟨by omega, by rw [show pos + 1 + j = pos + (j + 1) by omega]; exact hqs (j + 1) (by omega) (by omega)⟩)
        rw [show g' - (k - 1) + (k - 1) = g' by omega, show pos + 1 + (k - 1) = pos + k by omega] at e
        rw [runsB_yes hlt hq0, e]
        exact spans_runs T s n g (g' - (k - 1)) (pos + k) _ _ (by omega) (by omega) (by omega)
      have hi : ∀ j, (s.get! (pos + j)).toNat / 64 = 2 → q (s.get! (pos + j)) = true := fun j h => T.bytes _ (by omega)
      rcases decodeN_shape (s.size - pos) (s.get! pos).toNat (s.get! (pos + 1)).toNat (s.get! (pos + 2)).toNat (s.get! (pos + 3)).toNat with ⟨h0, _⟩ | ⟨_, h1, c1, hr, e⟩ | ⟨_, h1, c1, c2, hr, _, e⟩ | ⟨_, h1, c1, c2, c3, hr, _, e⟩ | e <;> try rw [← hd] at e
      · exact absurd h0 hb
      · refine fin 2 (by omega) (by omega) (by rw [e]; exact hr) (by rw [e]) ?_
        intro j h1 h2
        obtain rfl : j = 1 := by omega
        exact hi 1 c1
      · refine fin 3 (by omega) (by omega) (by rw [e]; show 128 ≤ _; omega) (by rw [e]) ?_
        intro j h1 h2
        obtain rfl | rfl : j = 1 ∨ j = 2 := by omega
        · exact hi 1 c1
        · exact hi 2 c2
      · refine fin 4 (by omega) (by omega) (by rw [e]; show 128 ≤ _; omega) (by rw [e]) ?_
        intro j h1 h2
        obtain rfl | rfl | rfl : j = 1 ∨ j = 2 ∨ j = 3 := by omega
        · exact hi 1 c1
        · exact hi 2 c2
        · exact hi 3 c3
      · refine fin 1 (by omega) (by omega) (by rw [e]; show 128 ≤ 65533; omega) (by rw [e]) ?_
        intro j h1 h2
        omega

theorem fields_runs {p : Nat → Bool} {q : UInt8 → Bool} (T : Tests p q) (s : ByteArray) : goFieldsP p s = (runs q s).map fun x => s.extract x.1 x.2 := by
  unfold goFieldsP spansOfP runs
  rw [spans_runs T s s.size s.size s.size 0 none [] (by omega) (by omega) (by omega)]

/-- runs are cut well -/
theorem runsB_good (q : UInt8 → Bool) (s : ByteArray) : ∀ (f pos : Nat) (st : Option Nat) (acc : List (Nat × Nat)), s.size ≤ pos + f → (∀ x ∈ acc, x.1 < x.2 ∧ x.2 ≤ s.size) → (∀ a, st = some a → a < pos ∧ pos ≤ s.size) →
    (∀ x ∈ closeSpans s (runsB q s f pos st acc), x.1 < x.2 ∧ x.2 ≤ s.size)
  | 0, pos, st, acc, hf, ha, hs => by
    intro x hx
    cases st with
    | none => exact ha x hx
    | some a =>
      rcases List.mem_append.1 hx with h | h
      · exact ha x h
      · simp at h; subst h; have := hs a rfl; exact ⟨by simp; omega, by simp⟩
  | f + 1, pos, st, acc, hf, ha, hs => by
    rcases Nat.lt_or_ge pos s.size with hlt | hlt'
    rotate_left
    · have hlt : ¬ pos < s.size := Nat.not_lt.2 hlt'
      rw [runsB_end _ _ _ _ _ _ hlt]
      have := runsB_good q s 0 pos st acc (by omega) ha hs
      exact this
    cases hq : q (s.get! pos)
    · rw [runsB_no hlt hq]
      refine runsB_good q s f (pos + 1) none _ (by omega) ?_ (fun a h => by cases h)
      cases st with
      | none => exact ha
      | some a =>
        intro x hx
        rcases List.mem_append.1 hx with h | h
        · exact ha x h
        · simp at h; subst h; have := hs a rfl; exact ⟨this.1, by show pos ≤ s.size; omega⟩
    · rw [runsB_yes hlt hq]
      refine runsB_good q s f (pos + 1) _ _ (by omega) ha (fun a h => ?_)
      cases st with
      | none => simp at h; omega
      | some b => simp at h; have := hs b rfl; omega
theorem runs_good (q : UInt8 → Bool) (s : ByteArray) : ∀ x ∈ runs q s, x.1 < x.2 ∧ x.2 ≤ s.size :=
  runsB_good q s s.size 0 none [] (by omega) (fun x h => by cases h) (fun a h => by cases h)

theorem runsB_congr {q : UInt8 → Bool} {s s' : ByteArray} (hs : s.size = s'.size) (hq : ∀ i, i < s.size → q (s.get! i) = q (s'.get! i)) : ∀ (f pos : Nat) (st : Option Nat) (acc : List (Nat × Nat)), runsB q s f pos st acc = runsB q s' f pos st acc
  | 0, _, _, _ => rfl
  | f + 1, pos, st, acc => by
    by_cases hlt : pos < s.size
    · cases h : q (s.get! pos)
      · rw [runsB_no hlt h, runsB_no (by omega) (by rw [← hq pos hlt]; exact h)]; exact runsB_congr hs hq f _ _ _
      · rw [runsB_yes hlt h, runsB_yes (by omega) (by rw [← hq pos hlt]; exact h)]; exact runsB_congr hs hq f _ _ _
    · rw [runsB_end _ _ _ _ _ _ hlt, runsB_end _ _ _ _ _ _ (by omega)]
theorem runs_congr {q : UInt8 → Bool} {s s' : ByteArray} (hs : s.size = s'.size) (hq : ∀ i, i < s.size → q (s.get! i) = q (s'.get! i)) : runs q s = runs q s' := by
  unfold runs
  rw [runsB_congr hs hq, hs]
  unfold closeSpans
  rw [hs]

theorem get_list (s : ByteArray) (i : Nat) (h : i < s.size) : s.data.toList[i]? = some (s.get! i) := by
  obtain ⟨⟨l⟩⟩ := s
  have h' : i < l.length := h
  show l[i]? = _
  rw [List.getElem?_eq_getElem h']
  congr 1
  show l[i] = (Array.mk l)[i]!
  simp [h']

/-- small letters for A to Z -/
def smallB (c : UInt8) : UInt8 := if 65 ≤ c.toNat ∧ c.toNat ≤ 90 then c - 65 + 97 else c
def small (s : ByteArray) : ByteArray := ⟨s.data.map smallB⟩
theorem small_size (s : ByteArray) : (small s).size = s.size := by show (s.data.map smallB).size = s.data.size; simp
theorem small_get (s : ByteArray) (i : Nat) (h : i < s.size) : (small s).get! i = smallB (s.get! i) := by
  have h1 := get_list (small s) i (by rw [small_size]; exact h)
  have h2 := get_list s i h
  have e : (small s).data.toList = s.data.toList.map smallB := by show (s.data.map smallB).toList = _; simp
  rw [e, List.getElem?_map, h2] at h1
  exact (Option.some.inj h1).symm
theorem small_extract (s : ByteArray) (a b : Nat) : (small s).extract a b = small (s.extract a b) := by
  apply ByteArray.ext
  rw [ByteArray.data_extract]
  show (s.data.map smallB).extract a b = (s.extract a b).data.map smallB
  rw [ByteArray.data_extract, Array.map_extract]

/-- the bytes of words -/
def wordB (c : UInt8) : Bool := decide (97 ≤ c.toNat ∧ c.toNat ≤ 122) || decide (65 ≤ c.toNat ∧ c.toNat ≤ 90) || decide (48 ≤ c.toNat ∧ c.toNat ≤ 57) || decide (128 ≤ c.toNat)
theorem all_u8 (p : UInt8 → Prop) (h : ∀ n : Fin 256, p (UInt8.ofNat n.val)) : ∀ c, p c := by
  intro c
  have := h ⟨c.toNat, c.toNat_lt⟩
  simpa using this
theorem word_small : ∀ c : UInt8, wordB (smallB c) = wordB c := by apply all_u8; decide +kernel
def wordP (r : Nat) : Bool := decide (r < 128) && !wordB (UInt8.ofNat r)
theorem word_tests : Tests wordP wordB where
  low r h := by simp [wordP, h]
  high r h := by simp [wordP]; omega
  bytes b h := by simp [wordB]; omega

/-- Words of a string -/
def words (s : ByteArray) : List ByteArray := (runs wordB s).map fun x => small (s.extract x.1 x.2)
theorem words_eq (s : ByteArray) : goFieldsP wordP (small s) = words s := by
  rw [fields_runs word_tests]
  rw [runs_congr (s := small s) (s' := s) (small_size s) (fun i hi => by rw [small_get s i (by rw [small_size] at hi; exact hi)]; exact word_small _)]
  unfold words
  simp only [small_extract]

/-- by lists of bytes -/
def fieldsL (q : UInt8 → Bool) : List UInt8 → List UInt8 → List (List UInt8)
  | [], cur => if cur.isEmpty then [] else [cur]
  | b :: t, cur => if q b then fieldsL q t (cur ++ [b]) else if cur.isEmpty then fieldsL q t [] else cur :: fieldsL q t []
def curOf (L : List UInt8) (pos : Nat) : Option Nat → List UInt8 | none => [] | some a => (L.take pos).drop a
theorem runsB_list (q : UInt8 → Bool) (s : ByteArray) : ∀ (f pos : Nat) (st : Option Nat) (acc : List (Nat × Nat)), s.size ≤ pos + f → pos ≤ s.size → (∀ a, st = some a → a < pos) →
    (closeSpans s (runsB q s f pos st acc)).map (fun x => (s.extract x.1 x.2).data.toList) = acc.map (fun x => (s.extract x.1 x.2).data.toList) ++ fieldsL q (s.data.toList.drop pos) (curOf s.data.toList pos st) := by
  have hex : ∀ a b, (s.extract a b).data.toList = (s.data.toList.take b).drop a := fun a b => by
    rw [ByteArray.data_extract, Array.toList_extract, List.extract_eq_take_drop, List.drop_take]
  have hlen : s.data.toList.length = s.size := by simp
  have hne : ∀ a pos, a < pos → pos ≤ s.size → ((s.data.toList.take pos).drop a).isEmpty = false := fun a pos h1 h2 => by
    rw [List.isEmpty_eq_false_iff]
    intro h0
    have := congrArg List.length h0
    rw [List.length_drop, List.length_take, hlen] at this
    simp at this; omega
  intro f
  induction f with
  | zero =>
    intro pos st acc hf hp hs
    have hpe : pos = s.size := by omega
    have hd : s.data.toList.drop pos = [] := List.drop_eq_nil_of_le (by omega)
    rw [hd]
    cases st with
    | none => simp [runsB, closeSpans, fieldsL, curOf]
    | some a =>
      have := hne a pos (hs a rfl) hp
      simp only [runsB, closeSpans, fieldsL, curOf, List.map_append, List.map_cons, List.map_nil, this, hex]
      rw [hpe]; rfl
  | succ f ih =>
    intro pos st acc hf hp hs
    rcases Nat.lt_or_ge pos s.size with hlt | hlt'
    rotate_left
    · have hlt : ¬ pos < s.size := Nat.not_lt.2 hlt'
      have h := ih pos st acc (by omega) hp hs
      rw [runsB_end _ _ _ _ _ _ hlt]
      rwa [runsB_end _ _ _ _ _ _ hlt] at h
    have hg := get_list s pos hlt
    have hd : s.data.toList.drop pos = s.get! pos :: s.data.toList.drop (pos + 1) := by
      rw [List.drop_eq_getElem_cons (by omega)]
      congr 1
      rw [List.getElem?_eq_getElem (by omega)] at hg
      exact Option.some.inj hg
    have ht : s.data.toList.take (pos + 1) = s.data.toList.take pos ++ [s.get! pos] := by
      rw [List.take_add_one, hg]; rfl
    have htl : (s.data.toList.take pos).length = pos := by rw [List.length_take]; omega
    rw [hd]
    cases hq : q (s.get! pos)
    · rw [runsB_no hlt hq, ih (pos + 1) none _ (by omega) (by omega) (fun a h => by cases h)]
      cases st with
      | none => simp [nxt, fieldsL, hq, curOf]
      | some a =>
        have := hne a pos (hs a rfl) hp
        simp only [nxt, fieldsL, hq, curOf, this, List.map_append, List.map_cons, List.map_nil, hex, List.append_assoc, List.singleton_append, Bool.false_eq_true, if_false]
    · rw [runsB_yes hlt hq, ih (pos + 1) _ _ (by omega) (by omega) (fun a h => by cases st with | none => simp at h; omega | some b => simp at h; have := hs b rfl; omega)]
      simp only [fieldsL, hq, if_true]
      congr 2
      cases st with
      | none => show (s.data.toList.take (pos + 1)).drop pos = [] ++ [_]; rw [ht, List.drop_append, List.drop_eq_nil_of_le (by omega), htl, Nat.sub_self]; rfl
      | some a =>
        show (s.data.toList.take (pos + 1)).drop a = (s.data.toList.take pos).drop a ++ [_]
        have := hs a rfl
        rw [ht, List.drop_append_of_le_length (by omega)]
theorem runs_list (q : UInt8 → Bool) (s : ByteArray) : (runs q s).map (fun x => (s.extract x.1 x.2).data.toList) = fieldsL q s.data.toList [] := by
  have := runsB_list q s s.size 0 none [] (by omega) (by omega) (fun a h => by cases h)
  rw [show curOf s.data.toList 0 none = [] from rfl] at this
  simpa only [runs, List.map_nil, List.nil_append, List.drop_zero] using this

/-- the pieces between bytes c -/
def splitC (c : UInt8) : List UInt8 → List UInt8 → List (List UInt8)
  | [], cur => [cur]
  | b :: t, cur => if b = c then cur :: splitC c t [] else splitC c t (cur ++ [b])
theorem fields_split (c : UInt8) : ∀ (l cur : List UInt8), fieldsL (fun b => !(b == c)) l cur = (splitC c l cur).filter fun x => !x.isEmpty
  | [], cur => by cases cur <;> simp [fieldsL, splitC]
  | b :: t, cur => by
    by_cases h : b = c
    · subst h
      have ih := fields_split b t []
      cases cur <;> simp [fieldsL, splitC, ih]
    · have ih := fields_split c t (cur ++ [b])
      simp [fieldsL, splitC, h, ih]
theorem splitC_head (c : UInt8) : ∀ (a r cur : List UInt8), c ∉ a → splitC c (a ++ c :: r) cur = (cur ++ a) :: splitC c r []
  | [], r, cur, _ => by simp [splitC]
  | b :: t, r, cur, h => by
    have hb : ¬ b = c := fun e => h (by simp [e])
    rw [List.cons_append, splitC, if_neg hb, splitC_head c t r _ (fun e => h (by simp [e]))]
    simp
theorem splitC_none (c : UInt8) : ∀ (a cur : List UInt8), c ∉ a → splitC c a cur = [cur ++ a]
  | [], cur, _ => by simp [splitC]
  | b :: t, cur, h => by
    have hb : ¬ b = c := fun e => h (by simp [e])
    rw [splitC, if_neg hb, splitC_none c t _ (fun e => h (by simp [e]))]
    simp
theorem indexByte_head (c : UInt8) : ∀ (a r : List UInt8), c ∉ a → indexByte (a ++ c :: r) c = (a.length : Int)
  | [], r, _ => by simp [indexByte]
  | b :: t, r, h => by
    have hb : ¬ b = c := fun e => h (by simp [e])
    have ih := indexByte_head c t r (fun e => h (by simp [e]))
    have hn : ¬ ((t.length : Int) = -1) := by omega
    simp [indexByte, hb, ih]
theorem first_of (c : UInt8) : ∀ l : List UInt8, c ∈ l → ∃ a r, l = a ++ c :: r ∧ c ∉ a
  | [], h => by cases h
  | b :: t, h => by
    by_cases hb : b = c
    · exact ⟨[], t, by simp [hb], by simp⟩
    · have hct : c ∈ t := by
        rcases List.mem_cons.1 h with h | h
        · exact absurd h.symm hb
        · exact h
      obtain ⟨a, r, e, ha⟩ := first_of c t hct
      exact ⟨b :: a, r, by simp [e], by simp [ha, Ne.symm hb]⟩
theorem split_one (c : UInt8) : ∀ (n : Nat) (l : List UInt8), l.length ≤ n → splitK [c] 0 (count l [c]) l = splitC c l []
  | n, l, hn => by
    by_cases hc : c ∈ l
    · obtain ⟨a, r, rfl, ha⟩ := first_of c l hc
      have hcount : count (a ++ c :: r) [c] = count r [c] + 1 := by
        rw [count_one, count_one, List.count_append, List.count_cons_self, List.count_eq_zero_of_not_mem ha]; omega
      have hix : index (a ++ c :: r) [c] = (a.length : Int) := by rw [index_one]; exact indexByte_head c a r ha
      rw [hcount, splitC_head c a r [] ha]
      have hm : ¬ (index (a ++ c :: r) [c] == -1) = true := fun e => by have := beq_iff_eq.1 e; omega
      simp only [splitK]
      rw [if_neg hm, hix]
      cases n with
      | zero => simp at hn
      | succ n =>
        have hd : List.drop (a.length + 1) (a ++ c :: r) = r := by
          rw [List.drop_append, List.drop_eq_nil_of_le (by omega), show a.length + 1 - a.length = 1 by omega]; rfl
        simp only [Int.toNat_natCast, List.length_singleton, Nat.add_zero, List.take_left', hd, List.nil_append]
        rw [split_one c n r (by simp at hn; omega)]
    · have hcount : count l [c] = 0 := by rw [count_one]; exact List.count_eq_zero_of_not_mem hc
      rw [hcount, splitC_none c l [] hc]; rfl

end WM
