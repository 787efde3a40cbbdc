/- Texts put together. -/
import Derived.Lib.FieldsP
import Derived.Lib.MapLaws
import Derived.Lib.SplitLaws
import Derived.Lib.Strings
import Derived.Lib.Hide
/- Plain mathematics of words: the longest runs of bytes that pass a test; pieces between bytes. -/
namespace WM
open Go.Lib

def nxt (acc : List (Nat × Nat)) (st : Option Nat) (pos : Nat) : List (Nat × Nat) := match st with | some a => acc ++ [(a, pos)] | none => acc
/-- the longest runs of bytes that pass q, from pos on; st: where the run at hand begins -/
def runsB (q : UInt8 → Bool) (s : ByteArray) : Nat → Nat → Option Nat → List (Nat × Nat) → List (Nat × Nat) × Option Nat
  | 0, _, st, acc => (acc, st)
  | f + 1, pos, st, acc =>
    if pos < s.size then (if q (s.get! pos) then runsB q s f (pos + 1) (some (st.getD pos)) acc else runsB q s f (pos + 1) none (nxt acc st pos)) else (acc, st)
def runs (q : UInt8 → Bool) (s : ByteArray) : List (Nat × Nat) := closeSpans s (runsB q s s.size 0 none [])

theorem runsB_end (q : UInt8 → Bool) (s : ByteArray) (f pos : Nat) (st : Option Nat) (acc : List (Nat × Nat)) (h : ¬ pos < s.size) : runsB q s f pos st acc = (acc, st) := by
  cases f <;> simp [runsB, h]
theorem runsB_yes {q : UInt8 → Bool} {s : ByteArray} {pos : Nat} (h : pos < s.size) (hq : q (s.get! pos) = true) (f : Nat) (st : Option Nat) (acc : List (Nat × Nat)) :
    runsB q s (f + 1) pos st acc = runsB q s f (pos + 1) (some (st.getD pos)) acc := by simp [runsB, h, hq]
theorem runsB_no {q : UInt8 → Bool} {s : ByteArray} {pos : Nat} (h : pos < s.size) (hq : q (s.get! pos) = false) (f : Nat) (st : Option Nat) (acc : List (Nat × Nat)) :
    runsB q s (f + 1) pos st acc = runsB q s f (pos + 1) none (nxt acc st pos) := by simp [runsB, h, hq]

theorem spans_yes {p : Nat → Bool} {s : ByteArray} {pos : Nat} (h : pos < s.size) (hp : p (Go.Utf8.decode s pos).1 = false) (f : Nat) (st : Option Nat) (acc : List (Nat × Nat)) :
    spansFromP p s (f + 1) pos st acc = spansFromP p s f (pos + (Go.Utf8.decode s pos).2) (some (st.getD pos)) acc := by
  cases st <;> simp [spansFromP, h, hp]
theorem spans_no {p : Nat → Bool} {s : ByteArray} {pos : Nat} (h : pos < s.size) (hp : p (Go.Utf8.decode s pos).1 = true) (f : Nat) (st : Option Nat) (acc : List (Nat × Nat)) :
    spansFromP p s (f + 1) pos st acc = spansFromP p s f (pos + (Go.Utf8.decode s pos).2) none (nxt acc st pos) := by
  cases st <;> simp [spansFromP, h, hp, nxt]

/-- a test of runes that is one of bytes below 128 and takes all others -/
structure Tests (p : Nat → Bool) (q : UInt8 → Bool) : Prop where
  low : ∀ r, r < 128 → p r = !q (UInt8.ofNat r)
  high : ∀ r, 128 ≤ r → p r = false
  bytes : ∀ b : UInt8, 128 ≤ b.toNat → q b = true

theorem yes_n {q : UInt8 → Bool} {s : ByteArray} (acc : List (Nat × Nat)) : ∀ (k f pos a : Nat), (∀ j, j < k → pos + j < s.size ∧ q (s.get! (pos + j)) = true) → runsB q s (f + k) pos (some a) acc = runsB q s f (pos + k) (some a) acc
  | 0, f, pos, a, _ => rfl
  | k + 1, f, pos, a, h => by
    have h0 : pos < s.size ∧ q (s.get! pos) = true := h 0 (by omega)
    rw [show f + (k + 1) = (f + k) + 1 by omega, runsB_yes h0.1 h0.2, show (some a).getD pos = a from rfl, yes_n acc k f (pos + 1) a (fun j hj => by have := h (j + 1) (by omega); rwa [show pos + 1 + j = pos + (j + 1) by omega])]
    congr 1; omega

theorem spans_runs {p : Nat → Bool} {q : UInt8 → Bool} (T : Tests p q) (s : ByteArray) : ∀ (n f f' pos : Nat) (st : Option Nat) (acc : List (Nat × Nat)), s.size ≤ pos + n → s.size ≤ pos + f → s.size ≤ pos + f' → spansFromP p s f pos st acc = runsB q s f' pos st acc
  | 0, f, f', pos, st, acc, h, _, _ => by rw [spansFromP_end _ _ _ _ _ _ (by omega), runsB_end _ _ _ _ _ _ (by omega)]
  | n + 1, f, f', pos, st, acc, h, hf, hf' => by
    rcases Nat.lt_or_ge pos s.size with hlt | hlt'
    rotate_left
    · have hlt : ¬ pos < s.size := Nat.not_lt.2 hlt'
      rw [spansFromP_end _ _ _ _ _ _ hlt, runsB_end _ _ _ _ _ _ hlt]
    obtain ⟨g, rfl⟩ : ∃ g, f = g + 1 := ⟨f - 1, by omega⟩
    obtain ⟨g', rfl⟩ : ∃ g', f' = g' + 1 := ⟨f' - 1, by omega⟩
    have hd := decode_at s pos
    by_cases hb : (s.get! pos).toNat < 128
    · have hd1 : Go.Utf8.decode s pos = ((s.get! pos).toNat, 1) := by rw [hd]; unfold decodeN; rw [if_pos hb]
      have hp := T.low _ hb
      rw [show UInt8.ofNat (s.get! pos).toNat = s.get! pos by simp] at hp
      cases hq : q (s.get! pos)
      · rw [hq] at hp
        rw [spans_no hlt (by rw [hd1]; exact hp), runsB_no hlt hq, hd1]
        exact spans_runs T s n g g' (pos + 1) none _ (by omega) (by omega) (by omega)
      · rw [hq] at hp
        rw [spans_yes hlt (by rw [hd1]; exact hp), runsB_yes hlt hq, hd1]
        exact spans_runs T s n g g' (pos + 1) _ _ (by omega) (by omega) (by omega)
    · have hq0 : q (s.get! pos) = true := T.bytes _ (by omega)
      have fin : ∀ k, 1 ≤ k → k ≤ s.size - pos → 128 ≤ (Go.Utf8.decode s pos).1 → (Go.Utf8.decode s pos).2 = k → (∀ j, 1 ≤ j → j < k → q (s.get! (pos + j)) = true) →
          spansFromP p s (g + 1) pos st acc = runsB q s (g' + 1) pos st acc := by
        intro k hk hks hr hw hqs
        rw [spans_yes hlt (T.high _ hr), hw]
        have e := yes_n (s := s) (q := q) acc (k - 1) (g' - (k - 1)) (pos + 1) (st.getD pos) (fun j hj => ⟨by omega, by rw [show pos + 1 + j = pos + (j + 1) by omega]; exact hqs (j + 1) (by omega) (by omega)⟩)
        rw [show g' - (k - 1) + (k - 1) = g' by omega, show pos + 1 + (k - 1) = pos + k by omega] at e
        rw [runsB_yes hlt hq0, e]
        exact spans_runs T s n g (g' - (k - 1)) (pos + k) _ _ (by omega) (by omega) (by omega)
      have hi : ∀ j, (s.get! (pos + j)).toNat / 64 = 2 → q (s.get! (pos + j)) = true := fun j h => T.bytes _ (by omega)
      rcases decodeN_shape (s.size - pos) (s.get! pos).toNat (s.get! (pos + 1)).toNat (s.get! (pos + 2)).toNat (s.get! (pos + 3)).toNat with ⟨h0, _⟩ | ⟨_, h1, c1, hr, e⟩ | ⟨_, h1, c1, c2, hr, _, e⟩ | ⟨_, h1, c1, c2, c3, hr, _, e⟩ | e <;> try rw [← hd] at e
      · exact absurd h0 hb
      · refine fin 2 (by omega) (by omega) (by rw [e]; exact hr) (by rw [e]) ?_
        intro j h1 h2
        obtain rfl : j = 1 := by omega
        exact hi 1 c1
      · refine fin 3 (by omega) (by omega) (by rw [e]; show 128 ≤ _; omega) (by rw [e]) ?_
        intro j h1 h2
        obtain rfl | rfl : j = 1 ∨ j = 2 := by omega
        · exact hi 1 c1
        · exact hi 2 c2
      · refine fin 4 (by omega) (by omega) (by rw [e]; show 128 ≤ _; omega) (by rw [e]) ?_
        intro j h1 h2
        obtain rfl | rfl | rfl : j = 1 ∨ j = 2 ∨ j = 3 := by omega
        · exact hi 1 c1
        · exact hi 2 c2
        · exact hi 3 c3
      · refine fin 1 (by omega) (by omega) (by rw [e]; show 128 ≤ 65533; omega) (by rw [e]) ?_
        intro j h1 h2
        omega

theorem fields_runs {p : Nat → Bool} {q : UInt8 → Bool} (T : Tests p q) (s : ByteArray) : goFieldsP p s = (runs q s).map fun x => s.extract x.1 x.2 := by
  unfold goFieldsP spansOfP runs
  rw [spans_runs T s s.size s.size s.size 0 none [] (by omega) (by omega) (by omega)]

/-- runs are cut well -/
theorem runsB_good (q : UInt8 → Bool) (s : ByteArray) : ∀ (f pos : Nat) (st : Option Nat) (acc : List (Nat × Nat)), s.size ≤ pos + f → (∀ x ∈ acc, x.1 < x.2 ∧ x.2 ≤ s.size) → (∀ a, st = some a → a < pos ∧ pos ≤ s.size) →
    (∀ x ∈ closeSpans s (runsB q s f pos st acc), x.1 < x.2 ∧ x.2 ≤ s.size)
  | 0, pos, st, acc, hf, ha, hs => by
    intro x hx
    cases st with
    | none => exact ha x hx
    | some a =>
      rcases List.mem_append.1 hx with h | h
      · exact ha x h
      · simp at h; subst h; have := hs a rfl; exact ⟨by simp; omega, by simp⟩
  | f + 1, pos, st, acc, hf, ha, hs => by
    rcases Nat.lt_or_ge pos s.size with hlt | hlt'
    rotate_left
    · have hlt : ¬ pos < s.size := Nat.not_lt.2 hlt'
      rw [runsB_end _ _ _ _ _ _ hlt]
      have := runsB_good q s 0 pos st acc (by omega) ha hs
      exact this
    cases hq : q (s.get! pos)
    · rw [runsB_no hlt hq]
      refine runsB_good q s f (pos + 1) none _ (by omega) ?_ (fun a h => by cases h)
      cases st with
      | none => exact ha
      | some a =>
        intro x hx
        rcases List.mem_append.1 hx with h | h
        · exact ha x h
        · simp at h; subst h; have := hs a rfl; exact ⟨this.1, by show pos ≤ s.size; omega⟩
    · rw [runsB_yes hlt hq]
      refine runsB_good q s f (pos + 1) _ _ (by omega) ha (fun a h => ?_)
      cases st with
      | none => simp at h; omega
      | some b => simp at h; have := hs b rfl; omega
theorem runs_good (q : UInt8 → Bool) (s : ByteArray) : ∀ x ∈ runs q s, x.1 < x.2 ∧ x.2 ≤ s.size :=
  runsB_good q s s.size 0 none [] (by omega) (fun x h => by cases h) (fun a h => by cases h)

theorem runsB_congr {q : UInt8 → Bool} {s s' : ByteArray} (hs : s.size = s'.size) (hq : ∀ i, i < s.size → q (s.get! i) = q (s'.get! i)) : ∀ (f pos : Nat) (st : Option Nat) (acc : List (Nat × Nat)), runsB q s f pos st acc = runsB q s' f pos st acc
  | 0, _, _, _ => rfl
  | f + 1, pos, st, acc => by
    by_cases hlt : pos < s.size
    · cases h : q (s.get! pos)
      · rw [runsB_no hlt h, runsB_no (by omega) (by rw [← hq pos hlt]; exact h)]; exact runsB_congr hs hq f _ _ _
      · rw [runsB_yes hlt h, runsB_yes (by omega) (by rw [← hq pos hlt]; exact h)]; exact runsB_congr hs hq f _ _ _
    · rw [runsB_end _ _ _ _ _ _ hlt, runsB_end _ _ _ _ _ _ (by omega)]
theorem runs_congr {q : UInt8 → Bool} {s s' : ByteArray} (hs : s.size = s'.size) (hq : ∀ i, i < s.size → q (s.get! i) = q (s'.get! i)) : runs q s = runs q s' := by
  unfold runs
  rw [runsB_congr hs hq, hs]
  unfold closeSpans
  rw [hs]

theorem get_list (s : ByteArray) (i : Nat) (h : i < s.size) : s.data.toList[i]? = some (s.get! i) := by
  obtain ⟨⟨l⟩⟩ := s
  have h' : i < l.length := h
  show l[i]? = _
  rw [List.getElem?_eq_getElem h']
  congr 1
  show l[i] = (Array.mk l)[i]!
  simp [h']

/-- small letters for A to Z -/
def smallB (c : UInt8) : UInt8 := if 65 ≤ c.toNat ∧ c.toNat ≤ 90 then c - 65 + 97 else c
def small (s : ByteArray) : ByteArray := ⟨s.data.map smallB⟩
theorem small_size (s : ByteArray) : (small s).size = s.size := by show (s.data.map smallB).size = s.data.size; simp
theorem small_get (s : ByteArray) (i : Nat) (h : i < s.size) : (small s).get! i = smallB (s.get! i) := by
  have h1 := get_list (small s) i (by rw [small_size]; exact h)
  have h2 := get_list s i h
  have e : (small s).data.toList = s.data.toList.map smallB := by show (s.data.map smallB).toList = _; simp
  rw [e, List.getElem?_map, h2] at h1
  exact (Option.some.inj h1).symm
theorem small_extract (s : ByteArray) (a b : Nat) : (small s).extract a b = small (s.extract a b) := by
  apply ByteArray.ext
  rw [ByteArray.data_extract]
  show (s.data.map smallB).extract a b = (s.extract a b).data.map smallB
  rw [ByteArray.data_extract, Array.map_extract]

/-- the bytes of words -/
def wordB (c : UInt8) : Bool := decide (97 ≤ c.toNat ∧ c.toNat ≤ 122) || decide (65 ≤ c.toNat ∧ c.toNat ≤ 90) || decide (48 ≤ c.toNat ∧ c.toNat ≤ 57) || decide (128 ≤ c.toNat)
theorem all_u8 (p : UInt8 → Prop) (h : ∀ n : Fin 256, p (UInt8.ofNat n.val)) : ∀ c, p c := by
  intro c
  have := h ⟨c.toNat, c.toNat_lt⟩
  simpa using this
theorem word_small : ∀ c : UInt8, wordB (smallB c) = wordB c := by apply all_u8; decide +kernel
def wordP (r : Nat) : Bool := decide (r < 128) && !wordB (UInt8.ofNat r)
theorem word_tests : Tests wordP wordB where
  low r h := by simp [wordP, h]
  high r h := by simp [wordP]; omega
  bytes b h := by simp [wordB]; omega

/-- Words of a string -/
def words (s : ByteArray) : List ByteArray := (runs wordB s).map fun x => small (s.extract x.1 x.2)
theorem words_eq (s : ByteArray) : goFieldsP wordP (small s) = words s := by
  rw [fields_runs word_tests]
  rw [runs_congr (s := small s) (s' := s) (small_size s) (fun i hi => by rw [small_get s i (by rw [small_size] at hi; exact hi)]; exact word_small _)]
  unfold words
  simp only [small_extract]

/-- by lists of bytes -/
def fieldsL (q : UInt8 → Bool) : List UInt8 → List UInt8 → List (List UInt8)
  | [], cur => if cur.isEmpty then [] else [cur]
  | b :: t, cur => if q b then fieldsL q t (cur ++ [b]) else if cur.isEmpty then fieldsL q t [] else cur :: fieldsL q t []
def curOf (L : List UInt8) (pos : Nat) : Option Nat → List UInt8 | none => [] | some a => (L.take pos).drop a
theorem runsB_list (q : UInt8 → Bool) (s : ByteArray) : ∀ (f pos : Nat) (st : Option Nat) (acc : List (Nat × Nat)), s.size ≤ pos + f → pos ≤ s.size → (∀ a, st = some a → a < pos) →
    (closeSpans s (runsB q s f pos st acc)).map (fun x => (s.extract x.1 x.2).data.toList) = acc.map (fun x => (s.extract x.1 x.2).data.toList) ++ fieldsL q (s.data.toList.drop pos) (curOf s.data.toList pos st) := by
  have hex : ∀ a b, (s.extract a b).data.toList = (s.data.toList.take b).drop a := fun a b => by
    rw [ByteArray.data_extract, Array.toList_extract, List.extract_eq_take_drop, List.drop_take]
  have hlen : s.data.toList.length = s.size := by simp
  have hne : ∀ a pos, a < pos → pos ≤ s.size → ((s.data.toList.take pos).drop a).isEmpty = false := fun a pos h1 h2 => by
    rw [List.isEmpty_eq_false_iff]
    intro h0
    have := congrArg List.length h0
    rw [List.length_drop, List.length_take, hlen] at this
    simp at this; omega
  intro f
  induction f with
  | zero =>
    intro pos st acc hf hp hs
    have hpe : pos = s.size := by omega
    have hd : s.data.toList.drop pos = [] := List.drop_eq_nil_of_le (by omega)
    rw [hd]
    cases st with
    | none => simp [runsB, closeSpans, fieldsL, curOf]
    | some a =>
      have := hne a pos (hs a rfl) hp
      simp only [runsB, closeSpans, fieldsL, curOf, List.map_append, List.map_cons, List.map_nil, this, hex]
      rw [hpe]; rfl
  | succ f ih =>
    intro pos st acc hf hp hs
    rcases Nat.lt_or_ge pos s.size with hlt | hlt'
    rotate_left
    · have hlt : ¬ pos < s.size := Nat.not_lt.2 hlt'
      have h := ih pos st acc (by omega) hp hs
      rw [runsB_end _ _ _ _ _ _ hlt]
      rwa [runsB_end _ _ _ _ _ _ hlt] at h
    have hg := get_list s pos hlt
    have hd : s.data.toList.drop pos = s.get! pos :: s.data.toList.drop (pos + 1) := by
      rw [List.drop_eq_getElem_cons (by omega)]
      congr 1
      rw [List.getElem?_eq_getElem (by omega)] at hg
      exact Option.some.inj hg
    have ht : s.data.toList.take (pos + 1) = s.data.toList.take pos ++ [s.get! pos] := by
      rw [List.take_add_one, hg]; rfl
    have htl : (s.data.toList.take pos).length = pos := by rw [List.length_take]; omega
    rw [hd]
    cases hq : q (s.get! pos)
    · rw [runsB_no hlt hq, ih (pos + 1) none _ (by omega) (by omega) (fun a h => by cases h)]
      cases st with
      | none => simp [nxt, fieldsL, hq, curOf]
      | some a =>
        have := hne a pos (hs a rfl) hp
        simp only [nxt, fieldsL, hq, curOf, this, List.map_append, List.map_cons, List.map_nil, hex, List.append_assoc, List.singleton_append, Bool.false_eq_true, if_false]
    · rw [runsB_yes hlt hq, ih (pos + 1) _ _ (by omega) (by omega) (fun a h => by cases st with | none => simp at h; omega | some b => simp at h; have := hs b rfl; omega)]
      simp only [fieldsL, hq, if_true]
      congr 2
      cases st with
      | none => show (s.data.toList.take (pos + 1)).drop pos = [] ++ [_]; rw [ht, List.drop_append, List.drop_eq_nil_of_le (by omega), htl, Nat.sub_self]; rfl
      | some a =>
        show (s.data.toList.take (pos + 1)).drop a = (s.data.toList.take pos).drop a ++ [_]
        have := hs a rfl
        rw [ht, List.drop_append_of_le_length (by omega)]
theorem runs_list (q : UInt8 → Bool) (s : ByteArray) : (runs q s).map (fun x => (s.extract x.1 x.2).data.toList) = fieldsL q s.data.toList [] := by
  have := runsB_list q s s.size 0 none [] (by omega) (by omega) (fun a h => by cases h)
  rw [show curOf s.data.toList 0 none = [] from rfl] at this
  simpa only [runs, List.map_nil, List.nil_append, List.drop_zero] using this

/-- the pieces between bytes c -/
def splitC (c : UInt8) : List UInt8 → List UInt8 → List (List UInt8)
  | [], cur => [cur]
  | b :: t, cur => if b = c then cur :: splitC c t [] else splitC c t (cur ++ [b])
theorem fields_split (c : UInt8) : ∀ (l cur : List UInt8), fieldsL (fun b => !(b == c)) l cur = (splitC c l cur).filter fun x => !x.isEmpty
  | [], cur => by cases cur <;> simp [fieldsL, splitC]
  | b :: t, cur => by
    by_cases h : b = c
    · subst h
      have ih := fields_split b t []
      cases cur <;> simp [fieldsL, splitC, ih]
    · have ih := fields_split c t (cur ++ [b])
      simp [fieldsL, splitC, h, ih]
theorem splitC_head (c : UInt8) : ∀ (a r cur : List UInt8), c ∉ a → splitC c (a ++ c :: r) cur = (cur ++ a) :: splitC c r []
  | [], r, cur, _ => by simp [splitC]
  | b :: t, r, cur, h => by
    have hb : ¬ b = c := fun e => h (by simp [e])
    rw [List.cons_append, splitC, if_neg hb, splitC_head c t r _ (fun e => h (by simp [e]))]
    simp
theorem splitC_none (c : UInt8) : ∀ (a cur : List UInt8), c ∉ a → splitC c a cur = [cur ++ a]
  | [], cur, _ => by simp [splitC]
  | b :: t, cur, h => by
    have hb : ¬ b = c := fun e => h (by simp [e])
    rw [splitC, if_neg hb, splitC_none c t _ (fun e => h (by simp [e]))]
    simp
theorem indexByte_head (c : UInt8) : ∀ (a r : List UInt8), c ∉ a → indexByte (a ++ c :: r) c = (a.length : Int)
  | [], r, _ => by simp [indexByte]
  | b :: t, r, h => by
    have hb : ¬ b = c := fun e => h (by simp [e])
    have ih := indexByte_head c t r (fun e => h (by simp [e]))
    have hn : ¬ ((t.length : Int) = -1) := by omega
    simp [indexByte, hb, ih]
theorem first_of (c : UInt8) : ∀ l : List UInt8, c ∈ l → ∃ a r, l = a ++ c :: r ∧ c ∉ a
  | [], h => by cases h
  | b :: t, h => by
    by_cases hb : b = c
    · exact ⟨[], t, by simp [hb], by simp⟩
    · have hct : c ∈ t := by
        rcases List.mem_cons.1 h with h | h
        · exact absurd h.symm hb
        · exact h
      obtain ⟨a, r, e, ha⟩ := first_of c t hct
      exact ⟨b :: a, r, by simp [e], by simp [ha, Ne.symm hb]⟩
theorem split_one (c : UInt8) : ∀ (n : Nat) (l : List UInt8), l.length ≤ n → splitK [c] 0 (count l [c]) l = splitC c l []
  | n, l, hn => by
    by_cases hc : c ∈ l
    · obtain ⟨a, r, rfl, ha⟩ := first_of c l hc
      have hcount : count (a ++ c :: r) [c] = count r [c] + 1 := by
        rw [count_one, count_one, List.count_append, List.count_cons_self, List.count_eq_zero_of_not_mem ha]; omega
      have hix : index (a ++ c :: r) [c] = (a.length : Int) := by rw [index_one]; exact indexByte_head c a r ha
      rw [hcount, splitC_head c a r [] ha]
      have hm : ¬ (index (a ++ c :: r) [c] == -1) = true := fun e => by have := beq_iff_eq.1 e; omega
      simp only [splitK]
      rw [if_neg hm, hix]
      cases n with
      | zero => simp at hn
      | succ n =>
        have hd : List.drop (a.length + 1) (a ++ c :: r) = r := by
          rw [List.drop_append, List.drop_eq_nil_of_le (by omega), show a.length + 1 - a.length = 1 by omega]; rfl
        simp only [Int.toNat_natCast, List.length_singleton, Nat.add_zero, List.take_left', hd, List.nil_append]
        rw [split_one c n r (by simp at hn; omega)]
    · have hcount : count l [c] = 0 := by rw [count_one]; exact List.count_eq_zero_of_not_mem hc
      rw [hcount, splitC_none c l [] hc]; rfl

end WM
/- Plain mathematics: pieces, fields, tokens, their weight. -/
namespace WM
open Go.Lib
theorem data_inj : ∀ {a b : List ByteArray}, a.map (·.data.toList) = b.map (·.data.toList) → a = b
  | [], [], _ => rfl
  | [], _ :: _, h => by simp at h
  | _ :: _, [], h => by simp at h
  | x :: a, y :: b, h => by
    simp only [List.map_cons, List.cons.injEq] at h
    obtain ⟨h1, h2⟩ := h
    rw [data_inj h2]
    have : x = y := by cases x; cases y; simpa using h1
    rw [this]
def sep (c : UInt8) : ByteArray := ⟨#[c]⟩
/-- the pieces of s between bytes c -/
def pieces (c : UInt8) (s : ByteArray) : List ByteArray := splitB (sep c) 0 (countB s (sep c)) s
theorem pieces_data (c : UInt8) (s : ByteArray) : (pieces c s).map (·.data.toList) = splitC c s.data.toList [] := by
  unfold pieces
  rw [splitB_data]
  exact split_one c _ s.data.toList (Nat.le_refl _)
/-- the weight of a list of strings: their bytes, and one each -/
def wt : List ByteArray → Nat
  | [] => 0
  | x :: l => x.size + 1 + wt l
theorem wt_append : ∀ a b : List ByteArray, wt (a ++ b) = wt a + wt b
  | [], b => by simp [wt]
  | x :: a, b => by simp [wt, wt_append a b]; omega
theorem wt_len : ∀ a : List ByteArray, a.length ≤ wt a
  | [] => by simp [wt]
  | x :: a => by have := wt_len a; simp [wt]; omega
theorem wt_take (a : List ByteArray) (k : Nat) : wt (a.take k) ≤ wt a := by
  have := wt_append (a.take k) (a.drop k)
  rw [List.take_append_drop] at this
  omega
theorem wt_filter (p : ByteArray → Bool) : ∀ a : List ByteArray, wt (a.filter p) ≤ wt a
  | [] => by simp [wt]
  | x :: a => by
    have := wt_filter p a
    cases h : p x <;> simp [h, wt] <;> omega
def wl (a : List (List UInt8)) : Nat := (a.map fun x => x.length + 1).sum
theorem wt_data : ∀ a : List ByteArray, wt a = wl (a.map (·.data.toList))
  | [] => rfl
  | x :: a => by
    have := wt_data a
    simp [wt, wl] at this ⊢
    exact this
theorem splitC_wl (c : UInt8) : ∀ l cur : List UInt8, wl (splitC c l cur) = l.length + cur.length + 1
  | [], cur => by simp [splitC, wl]
  | b :: t, cur => by
    by_cases h : b = c
    · have := splitC_wl c t []
      simp [splitC, h, wl] at this ⊢
      omega
    · have := splitC_wl c t (cur ++ [b])
      simp [splitC, h] at this ⊢
      omega
theorem pieces_wt (c : UInt8) (s : ByteArray) : wt (pieces c s) = s.size + 1 := by
  rw [wt_data, pieces_data, splitC_wl]; simp
def blankP (r : Nat) : Bool := decide (r = 32)
theorem blank_tests : Tests blankP (fun b => !(b == 32)) where
  low r h := by
    have : (UInt8.ofNat r == 32) = decide (r = 32) := by
      rw [Bool.eq_iff_iff, beq_iff_eq, decide_eq_true_iff]
      constructor
      · intro e
        have := congrArg UInt8.toNat e
        simp at this
        omega
      · rintro rfl; rfl
    simp [blankP, this]
  high r h := by simp [blankP]; omega
  bytes b h := by
    have : (b == 32) = false := beq_eq_false_iff_ne.2 (fun e => by subst e; revert h; decide)
    simp [this]
/-- the fields of a line -/
def flds (s : ByteArray) : List ByteArray := (pieces 32 s).filter fun x => !x.toList.isEmpty
theorem flds_eq (s : ByteArray) : goFieldsP blankP s = flds s := by
  apply data_inj
  rw [fields_runs blank_tests, List.map_map, show ((fun x : ByteArray => x.data.toList) ∘ fun x : Nat × Nat => s.extract x.1 x.2) = fun x => (s.extract x.1 x.2).data.toList from rfl, runs_list, fields_split]
  unfold flds
  rw [← pieces_data]
  generalize pieces 32 s = l
  induction l with
  | nil => rfl
  | cons x l ih =>
    have e : x.toList = x.data.toList := toList_data x
    cases h : x.data.toList.isEmpty <;> simp only [List.map_cons, List.filter_cons, e, h, ih, Bool.not_true, Bool.not_false, if_true] <;> simp
theorem flds_wt (s : ByteArray) : wt (flds s) ≤ s.size + 1 := by
  have := wt_filter (fun x => !x.toList.isEmpty) (pieces 32 s)
  rw [pieces_wt] at this
  exact this
def nl : ByteArray := ⟨#[10]⟩
/-- tokens of the first k lines -/
def toksK (ls : List ByteArray) : Nat → List ByteArray
  | 0 => []
  | k + 1 => toksK ls k ++ (if 0 < k then [nl] else []) ++ flds (ls.getD k ByteArray.empty)
def toks (s : ByteArray) : List ByteArray := toksK (pieces 10 s) (pieces 10 s).length
theorem toksK_wt (ls : List ByteArray) : ∀ k, k ≤ ls.length → wt (toksK ls k) ≤ 3 * wt (ls.take k)
  | 0, _ => by simp [toksK, wt]
  | k + 1, h => by
    have ih := toksK_wt ls k (by omega)
    have hf := flds_wt (ls.getD k ByteArray.empty)
    have hk : ls.take (k + 1) = ls.take k ++ [ls[k]] := List.take_succ_eq_append_getElem h
    have hg : ls.getD k ByteArray.empty = ls[k] := by rw [List.getD_eq_getElem?_getD, List.getElem?_eq_getElem h]; rfl
    rw [hg] at hf
    have hn : wt (if 0 < k then [nl] else []) ≤ 2 := by split <;> decide
    simp only [toksK, wt_append, hk, hg]
    simp only [wt] at *
    omega
theorem toks_wt (s : ByteArray) : wt (toks s) ≤ 3 * (s.size + 1) := by
  have := toksK_wt (pieces 10 s) _ (Nat.le_refl _)
  rwa [List.take_length, pieces_wt] at this
theorem toksK_le (s : ByteArray) {k : Nat} (h : k ≤ (pieces 10 s).length) : (toksK (pieces 10 s) k).length ≤ 3 * (s.size + 1) := by
  have h1 := wt_len (toksK (pieces 10 s) k)
  have h2 := toksK_wt (pieces 10 s) k h
  have h3 := wt_take (pieces 10 s) k
  rw [pieces_wt] at h3
  omega
end WM
/- Plain mathematics: tokens put together. -/
namespace WM
/-- what Join puts ahead of element k -/
def gap (l : List ByteArray) : Nat → List UInt8
  | 0 => []
  | j + 1 => if l[j + 1]? ≠ some nl ∧ l[j]? ≠ some nl then [32] else []
def joinK (l : List ByteArray) : Nat → List UInt8
  | 0 => []
  | k + 1 => joinK l k ++ gap l k ++ (l.getD k ByteArray.empty).data.toList
def joinT (l : List ByteArray) : List UInt8 := joinK l l.length
theorem joinK_len (l : List ByteArray) (k : Nat) : ∀ n, (joinK l k).length ≤ (joinK l (k + n)).length
  | 0 => Nat.le_refl _
  | n + 1 => by
    have := joinK_len l k n
    rw [← Nat.add_assoc]
    simp only [joinK, List.length_append]
    omega
theorem joinK_le (l : List ByteArray) {k : Nat} (h : k ≤ l.length) : (joinK l k).length ≤ (joinT l).length := by
  have := joinK_len l k (l.length - k)
  rwa [Nat.add_sub_cancel' h] at this
theorem joinK_wt (l : List ByteArray) : ∀ k, k ≤ l.length → (joinK l k).length ≤ wt (l.take k)
  | 0, _ => by simp [joinK, wt]
  | k + 1, h => by
    have ih := joinK_wt l k (by omega)
    have hk : l.take (k + 1) = l.take k ++ [l[k]] := List.take_succ_eq_append_getElem h
    have hg : l.getD k ByteArray.empty = l[k] := by rw [List.getD_eq_getElem?_getD, List.getElem?_eq_getElem h]; rfl
    have hgap : (gap l k).length ≤ 1 := by
      cases k with
      | zero => simp [gap]
      | succ j =>
        show (if l[j + 1]? ≠ some nl ∧ l[j]? ≠ some nl then [(32 : UInt8)] else []).length ≤ 1
        split <;> simp
    have hs : l[k].data.toList.length = l[k].size := by simp
    rw [hk, wt_append]
    simp only [joinK, List.length_append, hg, wt, hs]
    omega
theorem joinT_wt (l : List ByteArray) : (joinT l).length ≤ wt l := by
  have := joinK_wt l _ (Nat.le_refl _)
  rwa [List.take_length] at this
end WM
/- Plain mathematics: what can be kept of two lists; which of it is kept first. -/
namespace WM
def lrow (x : ByteArray) (r : List ByteArray → Nat) : List ByteArray → Nat
  | [] => 0
  | y :: b => if x = y then 1 + r b else max (r (y :: b)) (lrow x r b)
/-- how many can be kept of two lists -/
def lcs : List ByteArray → List ByteArray → Nat
  | [] => fun _ => 0
  | x :: a => lrow x (lcs a)
theorem lcs_nil (b : List ByteArray) : lcs [] b = 0 := rfl
theorem lcs_nil' : ∀ a : List ByteArray, lcs a [] = 0
  | [] => rfl
  | _ :: _ => rfl
theorem lcs_cons (x y : ByteArray) (a b : List ByteArray) : lcs (x :: a) (y :: b) = if x = y then 1 + lcs a b else max (lcs a (y :: b)) (lcs (x :: a) b) := rfl
theorem lcs_steps : ∀ (n : Nat) (a b : List ByteArray), a.length + b.length ≤ n → (∀ y, lcs a b ≤ lcs a (y :: b) ∧ lcs a (y :: b) ≤ 1 + lcs a b) ∧ (∀ x, lcs a b ≤ lcs (x :: a) b ∧ lcs (x :: a) b ≤ 1 + lcs a b) := by
  intro n
  induction n with
  | zero =>
    intro a b h
    have ha : a = [] := List.eq_nil_of_length_eq_zero (by omega)
    have hb : b = [] := List.eq_nil_of_length_eq_zero (by omega)
    subst ha; subst hb
    refine ⟨fun y => ⟨Nat.le_refl _, Nat.zero_le _⟩, fun x => ⟨Nat.le_refl _, Nat.zero_le _⟩⟩
  | succ n ih =>
    intro a b h
    refine ⟨fun y => ?_, fun x => ?_⟩
    · cases a with
      | nil => exact ⟨Nat.le_refl _, Nat.zero_le _⟩
      | cons x a =>
        simp only [List.length_cons] at h
        obtain ⟨c, r⟩ := ih a b (by omega)
        have c1 := c y
        have r1 := r x
        rw [lcs_cons]
        split <;> omega
    · cases b with
      | nil => rw [lcs_nil', lcs_nil']; omega
      | cons y b =>
        simp only [List.length_cons] at h
        obtain ⟨c, r⟩ := ih a b (by omega)
        have c1 := c y
        have r1 := r x
        rw [lcs_cons]
        split <;> omega
theorem lcs_le : ∀ a b : List ByteArray, lcs a b ≤ a.length
  | [], _ => Nat.zero_le _
  | x :: a, b => by
    have h1 := lcs_le a b
    have h2 := ((lcs_steps _ a b (Nat.le_refl _)).2 x).2
    simp only [List.length_cons]
    omega
/-- what can be kept from i and j on -/
def tb (A B : List ByteArray) (i j : Nat) : Nat := lcs (A.drop i) (B.drop j)
theorem tb_le (A B : List ByteArray) (i j : Nat) : tb A B i j ≤ A.length := by
  have := lcs_le (A.drop i) (B.drop j)
  rw [List.length_drop] at this
  unfold tb; omega
theorem tb_end1 (A B : List ByteArray) (j : Nat) : tb A B A.length j = 0 := by unfold tb; rw [List.drop_length]; rfl
theorem tb_end2 (A B : List ByteArray) (i : Nat) : tb A B i B.length = 0 := by unfold tb; rw [List.drop_length]; exact lcs_nil' _
theorem drop_cons {A : List ByteArray} {i : Nat} {x : ByteArray} (h : A[i]? = some x) : A.drop i = x :: A.drop (i + 1) := by
  obtain ⟨hi, rfl⟩ := List.getElem?_eq_some_iff.1 h
  exact List.drop_eq_getElem_cons hi
theorem tb_eq {A B : List ByteArray} {i j : Nat} {x y : ByteArray} (hx : A[i]? = some x) (hy : B[j]? = some y) (h : x = y) : tb A B i j = 1 + tb A B (i + 1) (j + 1) := by
  unfold tb; rw [drop_cons hx, drop_cons hy, lcs_cons, if_pos h]
theorem tb_ne {A B : List ByteArray} {i j : Nat} {x y : ByteArray} (hx : A[i]? = some x) (hy : B[j]? = some y) (h : x ≠ y) : tb A B i j = max (tb A B (i + 1) j) (tb A B i (j + 1)) := by
  unfold tb; rw [drop_cons hx, drop_cons hy, lcs_cons, if_neg h, ← drop_cons hx, ← drop_cons hy]
theorem tb_col {A B : List ByteArray} {i j : Nat} {y : ByteArray} (hy : B[j]? = some y) : tb A B i (j + 1) ≤ tb A B i j ∧ tb A B i j ≤ 1 + tb A B i (j + 1) := by
  unfold tb; rw [drop_cons hy]
  exact (lcs_steps _ _ _ (Nat.le_refl _)).1 y
theorem tb_row {A B : List ByteArray} {i j : Nat} {x : ByteArray} (hx : A[i]? = some x) : tb A B (i + 1) j ≤ tb A B i j ∧ tb A B i j ≤ 1 + tb A B (i + 1) j := by
  unfold tb; rw [drop_cons hx]
  exact (lcs_steps _ _ _ (Nat.le_refl _)).2 x
/-- the reference's way to the same number -/
theorem tb_eq' {A B : List ByteArray} {i j : Nat} {x y : ByteArray} (hx : A[i]? = some x) (hy : B[j]? = some y) (h : x = y) : tb A B i j = max (max (tb A B (i + 1) j) (tb A B i (j + 1))) (tb A B (i + 1) (j + 1) + 1) := by
  have h1 := tb_eq hx hy h
  have h2 := (tb_col (A := A) (i := i + 1) hy).2
  have h3 := (tb_row (B := B) (j := j + 1) hx).2
  omega
theorem tb_mono (A B : List ByteArray) (i j : Nat) : ∀ d, tb A B i (j + d) ≤ tb A B i j
  | 0 => Nat.le_refl _
  | d + 1 => by
    have ih := tb_mono A B i j d
    by_cases h : j + d < B.length
    · have := (tb_col (A := A) (i := i) (List.getElem?_eq_getElem h)).1
      rw [← Nat.add_assoc]; omega
    · have e : tb A B i (j + (d + 1)) = 0 := by
        unfold tb; rw [show B.drop (j + (d + 1)) = [] from List.drop_eq_nil_of_le (by omega)]; exact lcs_nil' _
      omega
/-- (i, k) is kept at the state (i, j): the tokens are equal, and nothing is lost -/
def Fit (A B : List ByteArray) (i j k : Nat) : Prop := ∃ x, A[i]? = some x ∧ B[k]? = some x ∧ tb A B (i + 1) (k + 1) + 1 = tb A B i j
theorem fit_first {A B : List ByteArray} {i j k k0 : Nat} {x : ByteArray} (hx : A[i]? = some x) (hj : j ≤ k0) (hk : k0 ≤ k) (h0 : B[k0]? = some x) (hf : Fit A B i j k) : Fit A B i j k0 := by
  obtain ⟨x', h1, h2, h3⟩ := hf
  have e : x' = x := by rw [hx] at h1; injection h1 with h1; exact h1.symm
  subst e
  refine ⟨x', hx, h0, ?_⟩
  have h4 := tb_mono A B (i + 1) (k0 + 1) (k - k0)
  have h5 := tb_eq hx h0 rfl
  have h6 := tb_mono A B i j (k0 - j)
  rw [show k0 + 1 + (k - k0) = k + 1 by omega] at h4
  rw [show j + (k0 - j) = k0 by omega] at h6
  omega
/-- the first token of l that is x -/
def firstOf (x : ByteArray) : List ByteArray → Option Nat
  | [] => none
  | y :: l => if y = x then some 0 else (firstOf x l).map (· + 1)
theorem firstOf_some {x : ByteArray} : ∀ {l : List ByteArray} {n : Nat}, firstOf x l = some n → l[n]? = some x ∧ ∀ k : Nat, k < n → l[k]? ≠ some x
  | [], n, h => by simp [firstOf] at h
  | y :: l, n, h => by
    unfold firstOf at h
    split at h
    · rename_i e
      injection h with h
      subst h
      exact ⟨by simp [e], fun k hk => by omega⟩
    · rename_i e
      obtain ⟨m, hm, rfl⟩ := Option.map_eq_some_iff.1 h
      obtain ⟨h1, h2⟩ := firstOf_some hm
      refine ⟨by simpa using h1, fun k hk => ?_⟩
      cases k with
      | zero => simpa using e
      | succ k => simpa using h2 k (by omega)
theorem firstOf_none {x : ByteArray} : ∀ {l : List ByteArray}, firstOf x l = none → ∀ k : Nat, l[k]? ≠ some x
  | [], _, k => by simp
  | y :: l, h, k => by
    unfold firstOf at h
    split at h
    · cases h
    · rename_i e
      cases k with
      | zero => simpa using e
      | succ k => simpa using firstOf_none (Option.map_eq_none_iff.1 h) k
theorem firstOf_lt {x : ByteArray} {l : List ByteArray} {n : Nat} (h : firstOf x l = some n) : n < l.length := (List.getElem?_eq_some_iff.1 (firstOf_some h).1).1
open Classical in
/-- one token more -/
noncomputable def nextK (A B : List ByteArray) (i : Nat) (s : List (Nat × Nat) × Nat) : List (Nat × Nat) × Nat :=
  if h : ∃ k, s.2 ≤ k ∧ Fit A B i s.2 k ∧ ∀ q, s.2 ≤ q → q < k → B[q]? ≠ A[i]? then (s.1 ++ [(i, h.choose)], h.choose + 1) else s
/-- the pairs that are kept of the first i tokens, and where the second list goes on -/
noncomputable def kpK (A B : List ByteArray) : Nat → List (Nat × Nat) × Nat
  | 0 => ([], 0)
  | i + 1 => nextK A B i (kpK A B i)
theorem kp_hit {A B : List ByteArray} {i k : Nat} {l : List (Nat × Nat)} {j : Nat} (hs : kpK A B i = (l, j)) (hj : j ≤ k) (hf : Fit A B i j k) (hq : ∀ q, j ≤ q → q < k → B[q]? ≠ A[i]?) : kpK A B (i + 1) = (l ++ [(i, k)], k + 1) := by
  show nextK A B i (kpK A B i) = _
  rw [hs]
  have h : ∃ k, j ≤ k ∧ Fit A B i j k ∧ ∀ q, j ≤ q → q < k → B[q]? ≠ A[i]? := ⟨k, hj, hf, hq⟩
  have e : h.choose = k := by
    obtain ⟨h1, h2, h3⟩ := h.choose_spec
    generalize h.choose = c at h1 h2 h3 ⊢
    obtain ⟨x, a1, a2, _⟩ := hf
    obtain ⟨y, b1, b2, _⟩ := h2
    rcases Nat.lt_trichotomy c k with g | g | g
    · exact absurd (b2.trans b1.symm) (hq _ h1 g)
    · exact g
    · exact absurd (a2.trans a1.symm) (h3 _ hj g)
  unfold nextK
  rw [dif_pos h, e]
theorem kp_miss {A B : List ByteArray} {i : Nat} {l : List (Nat × Nat)} {j : Nat} (hs : kpK A B i = (l, j)) (hq : ∀ k, j ≤ k → ¬ (Fit A B i j k ∧ ∀ q, j ≤ q → q < k → B[q]? ≠ A[i]?)) : kpK A B (i + 1) = (l, j) := by
  show nextK A B i (kpK A B i) = _
  rw [hs]
  unfold nextK
  rw [dif_neg]
  rintro ⟨k, h1, h2⟩
  exact hq k h1 h2
/-- the reference's search: the first that fits -/
theorem kp_hit' {A B : List ByteArray} {i k : Nat} {l : List (Nat × Nat)} {j : Nat} (hs : kpK A B i = (l, j)) (hj : j ≤ k) (hf : Fit A B i j k) (hq : ∀ q, j ≤ q → q < k → ¬ Fit A B i j q) : kpK A B (i + 1) = (l ++ [(i, k)], k + 1) := by
  refine kp_hit hs hj hf fun q h1 h2 he => hq q h1 h2 ?_
  obtain ⟨x, a1, a2, _⟩ := id hf
  exact fit_first a1 h1 (by omega) (he.trans a1) hf
/-- the program's search: the first equal token -/
theorem kp_none {A B : List ByteArray} {i : Nat} {x : ByteArray} {l : List (Nat × Nat)} {j : Nat} (hs : kpK A B i = (l, j)) (hx : A[i]? = some x) (hn : firstOf x (B.drop j) = none) : kpK A B (i + 1) = (l, j) := by
  refine kp_miss hs fun k hk hf => ?_
  obtain ⟨y, b1, b2, _⟩ := hf.1
  have := firstOf_none hn (k - j)
  rw [List.getElem?_drop, show j + (k - j) = k by omega] at this
  exact this (b2.trans (b1.symm.trans hx))
theorem kp_some {A B : List ByteArray} {i s : Nat} {x : ByteArray} {l : List (Nat × Nat)} {j : Nat} (hs : kpK A B i = (l, j)) (hx : A[i]? = some x) (hn : firstOf x (B.drop j) = some s) (h : tb A B i j = 1 + tb A B (i + 1) (j + s + 1)) : kpK A B (i + 1) = (l ++ [(i, j + s)], j + s + 1) := by
  obtain ⟨h1, h2⟩ := firstOf_some hn
  rw [List.getElem?_drop] at h1
  refine kp_hit hs (by omega) ⟨x, hx, h1, by omega⟩ fun q g1 g2 => ?_
  have := h2 (q - j) (by omega)
  rw [List.getElem?_drop, show j + (q - j) = q by omega] at this
  rw [hx]; exact this
theorem kp_less {A B : List ByteArray} {i s : Nat} {x : ByteArray} {l : List (Nat × Nat)} {j : Nat} (hs : kpK A B i = (l, j)) (hx : A[i]? = some x) (hn : firstOf x (B.drop j) = some s) (h : tb A B i j ≠ 1 + tb A B (i + 1) (j + s + 1)) : kpK A B (i + 1) = (l, j) := by
  obtain ⟨h1, h2⟩ := firstOf_some hn
  rw [List.getElem?_drop] at h1
  refine kp_miss hs fun k hk hf => ?_
  obtain ⟨y, b1, b2, b3⟩ := hf.1
  have e : k = j + s := by
    rcases Nat.lt_trichotomy k (j + s) with g | g | g
    · have := h2 (k - j) (by omega)
      rw [List.getElem?_drop, show j + (k - j) = k by omega] at this
      exact absurd (b2.trans (b1.symm.trans hx)) this
    · exact g
    · exact absurd (h1.trans hx.symm) (hf.2 (j + s) (by omega) g)
  subst e
  omega
/-- no token fits -/
theorem kp_off {A B : List ByteArray} {i : Nat} {l : List (Nat × Nat)} {j : Nat} (hs : kpK A B i = (l, j)) (hq : ∀ q, j ≤ q → q < B.length → ¬ Fit A B i j q) : kpK A B (i + 1) = (l, j) := by
  refine kp_miss hs fun k hk hf => ?_
  obtain ⟨y, b1, b2, _⟩ := id hf.1
  exact hq k hk (List.getElem?_eq_some_iff.1 b2).1 hf.1
noncomputable def kept (A B : List ByteArray) : List (Nat × Nat) := (kpK A B A.length).1
/-- where pair n begins: behind the one before -/
def fI (l : List (Nat × Nat)) : Nat → Nat
  | 0 => 0
  | n + 1 => (l.getD n (0, 0)).1 + 1
def fJ (l : List (Nat × Nat)) : Nat → Nat
  | 0 => 0
  | n + 1 => (l.getD n (0, 0)).2 + 1
/-- pairs that rise, the last before (i, j) -/
def Rise (l : List (Nat × Nat)) (i j : Nat) : Prop := (∀ n x, l[n]? = some x → fI l n ≤ x.1 ∧ fJ l n ≤ x.2) ∧ fI l l.length ≤ i ∧ fJ l l.length ≤ j
theorem fI_app (l : List (Nat × Nat)) (x : Nat × Nat) (n : Nat) (h : n ≤ l.length) : fI (l ++ [x]) n = fI l n := by
  cases n with
  | zero => rfl
  | succ n => simp only [fI, List.getD_eq_getElem?_getD]; rw [List.getElem?_append_left (by omega)]
theorem fJ_app (l : List (Nat × Nat)) (x : Nat × Nat) (n : Nat) (h : n ≤ l.length) : fJ (l ++ [x]) n = fJ l n := by
  cases n with
  | zero => rfl
  | succ n => simp only [fJ, List.getD_eq_getElem?_getD]; rw [List.getElem?_append_left (by omega)]
theorem fI_end (l : List (Nat × Nat)) (x : Nat × Nat) : fI (l ++ [x]) (l ++ [x]).length = x.1 + 1 := by simp [fI]
theorem fJ_end (l : List (Nat × Nat)) (x : Nat × Nat) : fJ (l ++ [x]) (l ++ [x]).length = x.2 + 1 := by simp [fJ]
theorem Rise.snoc {l : List (Nat × Nat)} {i j p q i' j' : Nat} (h : Rise l i j) (hp : i ≤ p) (hq : j ≤ q) (hi : p + 1 ≤ i') (hj : q + 1 ≤ j') : Rise (l ++ [(p, q)]) i' j' := by
  obtain ⟨h1, h2, h3⟩ := h
  refine ⟨fun n x hx => ?_, by rw [fI_end]; exact hi, by rw [fJ_end]; exact hj⟩
  have hn : n < (l ++ [(p, q)]).length := (List.getElem?_eq_some_iff.1 hx).1
  simp at hn
  rw [fI_app _ _ _ (by omega), fJ_app _ _ _ (by omega)]
  by_cases e : n < l.length
  · rw [List.getElem?_append_left e] at hx
    exact h1 n x hx
  · obtain rfl : n = l.length := by omega
    simp at hx
    subst hx
    exact ⟨by simp only; omega, by simp only; omega⟩
theorem kp_rise (A B : List ByteArray) : ∀ i, i ≤ A.length → Rise (kpK A B i).1 i (kpK A B i).2 ∧ (kpK A B i).2 ≤ B.length
  | 0, _ => ⟨⟨fun n x h => by simp [kpK] at h, Nat.le_refl _, Nat.le_refl _⟩, Nat.zero_le _⟩
  | i + 1, hi => by
    obtain ⟨ih, hb⟩ := kp_rise A B i (by omega)
    rcases Classical.em (∃ k, (kpK A B i).2 ≤ k ∧ Fit A B i (kpK A B i).2 k ∧ ∀ q, (kpK A B i).2 ≤ q → q < k → B[q]? ≠ A[i]?) with ⟨k, h1, h2, h3⟩ | h
    · rw [kp_hit (i := i) rfl h1 h2 h3]
      obtain ⟨x, _, b2, _⟩ := h2
      have := (List.getElem?_eq_some_iff.1 b2).1
      exact ⟨ih.snoc (Nat.le_refl _) h1 (Nat.le_refl _) (Nat.le_refl _), this⟩
    · rw [kp_miss (i := i) rfl (fun k hk hf => h ⟨k, hk, hf⟩)]
      exact ⟨⟨ih.1, Nat.le_succ_of_le ih.2.1, ih.2.2⟩, hb⟩
/-- the pairs, and the ends -/
noncomputable def ends (A B : List ByteArray) : List (Nat × Nat) := kept A B ++ [(A.length, B.length)]
theorem ends_rise (A B : List ByteArray) : Rise (ends A B) (A.length + 1) (B.length + 1) := by
  obtain ⟨h1, h2⟩ := kp_rise A B A.length (Nat.le_refl _)
  exact h1.snoc (Nat.le_refl _) h2 (Nat.le_refl _) (Nat.le_refl _)
theorem rise_le {l : List (Nat × Nat)} {i j : Nat} (h : Rise l i j) : ∀ (d n : Nat), n + d = l.length → fI l n ≤ i ∧ fJ l n ≤ j
  | 0, n, e => by obtain rfl : n = l.length := by omega
                  exact h.2
  | d + 1, n, e => by
    obtain ⟨h1, h2⟩ := rise_le h d (n + 1) (by omega)
    obtain ⟨x, hx⟩ : ∃ x, l[n]? = some x := ⟨_, List.getElem?_eq_getElem (show n < l.length by omega)⟩
    have := h.1 n x hx
    have e1 : fI l (n + 1) = x.1 + 1 := by simp [fI, hx]
    have e2 : fJ l (n + 1) = x.2 + 1 := by simp [fJ, hx]
    omega
theorem kept_len (A B : List ByteArray) : (kept A B).length ≤ A.length := by
  suffices ∀ i, i ≤ A.length → (kpK A B i).1.length ≤ i from this _ (Nat.le_refl _)
  intro i
  induction i with
  | zero => intro _; simp [kpK]
  | succ i ih =>
    intro hi
    have := ih (by omega)
    rcases Classical.em (∃ k, (kpK A B i).2 ≤ k ∧ Fit A B i (kpK A B i).2 k ∧ ∀ q, (kpK A B i).2 ≤ q → q < k → B[q]? ≠ A[i]?) with ⟨k, h1, h2, h3⟩ | h
    · rw [kp_hit (i := i) rfl h1 h2 h3]; simp; omega
    · rw [kp_miss (i := i) rfl (fun k hk hf => h ⟨k, hk, hf⟩)]; exact Nat.le_succ_of_le this
end WM
/- Plain mathematics: the changes between two lists; what is made of them. -/
namespace WM
structure Chg where
  at_ : Nat
  drop : List ByteArray
  add : List ByteArray
/-- the changes before the first n of the pairs -/
def chgK (A B : List ByteArray) (l : List (Nat × Nat)) : Nat → List Chg
  | 0 => []
  | n + 1 => chgK A B l n ++ (if fI l n < (l.getD n (0, 0)).1 ∨ fJ l n < (l.getD n (0, 0)).2 then [⟨fI l n, (A.drop (fI l n)).take ((l.getD n (0, 0)).1 - fI l n), (B.drop (fJ l n)).take ((l.getD n (0, 0)).2 - fJ l n)⟩] else [])
noncomputable def differ (A B : List ByteArray) : List Chg := chgK A B (ends A B) (ends A B).length
theorem chg_yes {A B : List ByteArray} {l : List (Nat × Nat)} {n : Nat} {x : Nat × Nat} (hx : l[n]? = some x) (h : fI l n < x.1 ∨ fJ l n < x.2) : chgK A B l (n + 1) = chgK A B l n ++ [⟨fI l n, (A.drop (fI l n)).take (x.1 - fI l n), (B.drop (fJ l n)).take (x.2 - fJ l n)⟩] := by
  have e : l.getD n (0, 0) = x := by simp [hx]
  simp only [chgK, e]
  rw [if_pos h]
theorem chg_no {A B : List ByteArray} {l : List (Nat × Nat)} {n : Nat} {x : Nat × Nat} (hx : l[n]? = some x) (h : ¬ (fI l n < x.1 ∨ fJ l n < x.2)) : chgK A B l (n + 1) = chgK A B l n := by
  have e : l.getD n (0, 0) = x := by simp [hx]
  simp only [chgK, e]
  rw [if_neg h, List.append_nil]
theorem chg_len (A B : List ByteArray) (l : List (Nat × Nat)) : ∀ n, (chgK A B l n).length ≤ n
  | 0 => Nat.le_refl _
  | n + 1 => by
    have ih := chg_len A B l n
    simp only [chgK, List.length_append]
    split <;> simp <;> omega
/-- where change n begins to copy: behind the one before -/
def aft (D : List Chg) : Nat → Nat
  | 0 => 0
  | n + 1 => (D[n]?.map fun c => c.at_ + c.drop.length).getD 0
/-- changes that follow one another, and end before e -/
def Fol (D : List Chg) (e : Nat) : Prop := (∀ n c, D[n]? = some c → aft D n ≤ c.at_) ∧ aft D D.length ≤ e
theorem aft_app (D : List Chg) (c : Chg) (n : Nat) (h : n ≤ D.length) : aft (D ++ [c]) n = aft D n := by
  cases n with
  | zero => rfl
  | succ n => simp only [aft]; rw [List.getElem?_append_left (by omega)]
theorem Fol.snoc {D : List Chg} {e e' : Nat} {c : Chg} (h : Fol D e) (h1 : e ≤ c.at_) (h2 : c.at_ + c.drop.length ≤ e') : Fol (D ++ [c]) e' := by
  refine ⟨fun n x hx => ?_, by simp [aft]; exact h2⟩
  have hn : n < (D ++ [c]).length := (List.getElem?_eq_some_iff.1 hx).1
  simp at hn
  rw [aft_app _ _ _ (by omega)]
  by_cases g : n < D.length
  · rw [List.getElem?_append_left g] at hx
    exact h.1 n x hx
  · obtain rfl : n = D.length := by omega
    simp at hx
    subst hx
    exact Nat.le_trans h.2 h1
theorem chg_fol {A B : List ByteArray} {l : List (Nat × Nat)} {i j : Nat} (hr : Rise l i j) (hA : ∀ (n : Nat) (x : Nat × Nat), l[n]? = some x → x.1 ≤ A.length) : ∀ n, n ≤ l.length → Fol (chgK A B l n) (fI l n)
  | 0, _ => ⟨fun n c h => by simp [chgK] at h, Nat.le_refl _⟩
  | n + 1, hn => by
    have ih := chg_fol (B := B) hr hA n (by omega)
    obtain ⟨x, hx⟩ : ∃ x, l[n]? = some x := ⟨_, List.getElem?_eq_getElem (show n < l.length by omega)⟩
    have h1 := (hr.1 n x hx).1
    have h2 := hA n x hx
    have e : fI l (n + 1) = x.1 + 1 := by simp [fI, hx]
    by_cases h : fI l n < x.1 ∨ fJ l n < x.2
    · rw [chg_yes hx h, e]
      refine ih.snoc (Nat.le_refl _) ?_
      simp only [List.length_take, List.length_drop]
      omega
    · rw [chg_no hx h, e]
      exact ⟨ih.1, by have := ih.2; omega⟩
theorem ends_le (A B : List ByteArray) (n : Nat) (x : Nat × Nat) (hx : (ends A B)[n]? = some x) : x.1 ≤ A.length ∧ x.2 ≤ B.length := by
  have hr := ends_rise A B
  have hn : n < (ends A B).length := (List.getElem?_eq_some_iff.1 hx).1
  have h := rise_le hr ((ends A B).length - (n + 1)) (n + 1) (by omega)
  have e1 : fI (ends A B) (n + 1) = x.1 + 1 := by simp [fI, hx]
  have e2 : fJ (ends A B) (n + 1) = x.2 + 1 := by simp [fJ, hx]
  omega
theorem ends_len (A B : List ByteArray) : (ends A B).length ≤ A.length + 1 := by
  have := kept_len A B
  simp [ends]; omega
theorem differ_fol (A B : List ByteArray) : Fol (differ A B) A.length := by
  have h := chg_fol (A := A) (B := B) (ends_rise A B) (fun n x hx => (ends_le A B n x hx).1) (ends A B).length (Nat.le_refl _)
  refine ⟨h.1, ?_⟩
  -- the last pair is the ends: what is behind it is one past the end; a change ends at its pair
  have hl : (ends A B).length = (kept A B).length + 1 := by simp [ends]
  have hk : (ends A B)[(kept A B).length]? = some (A.length, B.length) := by simp [ends]
  have h0 := chg_fol (A := A) (B := B) (ends_rise A B) (fun n x hx => (ends_le A B n x hx).1) (kept A B).length (by omega)
  have h1 := ((ends_rise A B).1 _ _ hk).1
  unfold differ
  rw [hl]
  by_cases c : fI (ends A B) (kept A B).length < A.length ∨ fJ (ends A B) (kept A B).length < B.length
  · rw [chg_yes hk c]
    refine (h0.snoc (e' := A.length) (Nat.le_refl _) ?_).2
    simp only [List.length_take, List.length_drop]
    simp only at h1
    omega
  · rw [chg_no hk c]
    have := h0.2
    simp only at h1
    omega
theorem fol_le {D : List Chg} {e : Nat} (h : Fol D e) : ∀ (d n : Nat), n + d = D.length → aft D n ≤ e
  | 0, n, q => by obtain rfl : n = D.length := by omega
                  exact h.2
  | d + 1, n, q => by
    have ih := fol_le h d (n + 1) (by omega)
    obtain ⟨c, hc⟩ : ∃ c, D[n]? = some c := ⟨_, List.getElem?_eq_getElem (show n < D.length by omega)⟩
    have h1 := h.1 n c hc
    have e1 : aft D (n + 1) = c.at_ + c.drop.length := by simp [aft, hc]
    omega
theorem fol_at {D : List Chg} {e : Nat} (h : Fol D e) {n : Nat} {c : Chg} (hc : D[n]? = some c) : aft D n ≤ c.at_ ∧ c.at_ + c.drop.length ≤ e := by
  have hn := (List.getElem?_eq_some_iff.1 hc).1
  have h1 := fol_le h (D.length - (n + 1)) (n + 1) (by omega)
  have e1 : aft D (n + 1) = c.at_ + c.drop.length := by simp [aft, hc]
  exact ⟨h.1 n c hc, by omega⟩
/-- the first n changes made, with what comes instead -/
def repK (f : Chg → List ByteArray) (T : List ByteArray) (D : List Chg) : Nat → List ByteArray
  | 0 => []
  | n + 1 => repK f T D n ++ (T.drop (aft D n)).take (((D[n]?.map (·.at_)).getD 0) - aft D n) ++ ((D[n]?.map f).getD [])
def rep (f : Chg → List ByteArray) (T : List ByteArray) (D : List Chg) : List ByteArray := repK f T D D.length ++ T.drop (aft D D.length)
theorem rep_step (f : Chg → List ByteArray) (T : List ByteArray) {D : List Chg} {n : Nat} {c : Chg} (hc : D[n]? = some c) : repK f T D (n + 1) = repK f T D n ++ (T.drop (aft D n)).take (c.at_ - aft D n) ++ f c := by simp [repK, hc]
theorem aft_step {D : List Chg} {n : Nat} {c : Chg} (hc : D[n]? = some c) : aft D (n + 1) = c.at_ + c.drop.length := by simp [aft, hc]
theorem rep_wt (f : Chg → List ByteArray) (T : List ByteArray) (D : List Chg) (M : Nat) (hf : ∀ c, c ∈ D → wt (f c) ≤ M) : ∀ n, wt (repK f T D n) ≤ n * (wt T + M)
  | 0 => by simp [repK, wt]
  | n + 1 => by
    have ih := rep_wt f T D M hf n
    have h1 := wt_take (T.drop (aft D n)) (((D[n]?.map (·.at_)).getD 0) - aft D n)
    have h2 : wt (T.drop (aft D n)) ≤ wt T := by
      have := wt_append (T.take (aft D n)) (T.drop (aft D n))
      rw [List.take_append_drop] at this
      omega
    have h3 : wt ((D[n]?.map f).getD []) ≤ M := by
      cases h : D[n]? with
      | none => simp [wt]
      | some c => simpa using hf c (List.mem_of_getElem? h)
    simp only [repK, wt_append]
    rw [Nat.add_mul]
    omega
end WM
/- Plain mathematics: the changes from one list to another lead there, and back; how many are kept. -/
namespace WM
/-- pairs that rise, with equal tokens, and the ends -/
structure Good (X Y : List ByteArray) (K : List (Nat × Nat)) : Prop where
  rise : Rise (K ++ [(X.length, Y.length)]) (X.length + 1) (Y.length + 1)
  eq : ∀ (n : Nat) (x : Nat × Nat), K[n]? = some x → X[x.1]? = Y[x.2]? ∧ x.1 < X.length ∧ x.2 < Y.length
def swp (x : Nat × Nat) : Nat × Nat := (x.2, x.1)
theorem fI_swp (l : List (Nat × Nat)) (n : Nat) : fI (l.map swp) n = fJ l n := by
  cases n with
  | zero => rfl
  | succ n =>
    simp only [fI, fJ, List.getD_eq_getElem?_getD, List.getElem?_map]
    cases l[n]? <;> rfl
theorem fJ_swp (l : List (Nat × Nat)) (n : Nat) : fJ (l.map swp) n = fI l n := by
  cases n with
  | zero => rfl
  | succ n =>
    simp only [fI, fJ, List.getD_eq_getElem?_getD, List.getElem?_map]
    cases l[n]? <;> rfl
theorem Good.swap {X Y : List ByteArray} {K : List (Nat × Nat)} (h : Good X Y K) : Good Y X (K.map swp) := by
  have e : K.map swp ++ [(Y.length, X.length)] = (K ++ [(X.length, Y.length)]).map swp := by simp [swp]
  constructor
  · rw [e]
    obtain ⟨h1, h2, h3⟩ := h.rise
    refine ⟨fun n x hx => ?_, ?_, ?_⟩
    · rw [fI_swp, fJ_swp]
      rw [List.getElem?_map, Option.map_eq_some_iff] at hx
      obtain ⟨y, hy, rfl⟩ := hx
      exact ⟨(h1 n y hy).2, (h1 n y hy).1⟩
    · rw [fI_swp, List.length_map]; exact h3
    · rw [fJ_swp, List.length_map]; exact h2
  · intro n x hx
    rw [List.getElem?_map, Option.map_eq_some_iff] at hx
    obtain ⟨y, hy, rfl⟩ := hx
    obtain ⟨h1, h2, h3⟩ := h.eq n y hy
    exact ⟨h1.symm, h3, h2⟩
theorem kp_eq (A B : List ByteArray) : ∀ i, i ≤ A.length → ∀ (n : Nat) (x : Nat × Nat), (kpK A B i).1[n]? = some x → A[x.1]? = B[x.2]? ∧ x.1 < A.length ∧ x.2 < B.length
  | 0, _, n, x, h => by simp [kpK] at h
  | i + 1, hi, n, x, h => by
    have ih := kp_eq A B i (by omega)
    rcases Classical.em (∃ k, (kpK A B i).2 ≤ k ∧ Fit A B i (kpK A B i).2 k ∧ ∀ q, (kpK A B i).2 ≤ q → q < k → B[q]? ≠ A[i]?) with ⟨k, h1, h2, h3⟩ | hn
    · rw [kp_hit (i := i) rfl h1 h2 h3] at h
      simp only at h
      by_cases e : n < (kpK A B i).1.length
      · rw [List.getElem?_append_left e] at h
        exact ih n x h
      · rw [List.getElem?_append_right (by omega)] at h
        have : n - (kpK A B i).1.length = 0 := by
          rcases Nat.eq_zero_or_pos (n - (kpK A B i).1.length) with z | z
          · exact z
          · rw [List.getElem?_eq_none (by simp; omega)] at h; cases h
        rw [this] at h
        simp at h
        subst h
        obtain ⟨y, a1, a2, _⟩ := h2
        exact ⟨a1.trans a2.symm, by simp only; omega, (List.getElem?_eq_some_iff.1 a2).1⟩
    · rw [kp_miss (i := i) rfl (fun k hk hf => hn ⟨k, hk, hf⟩)] at h
      exact ih n x h
theorem kept_good (X Y : List ByteArray) : Good X Y (kept X Y) := ⟨ends_rise X Y, kp_eq X Y X.length (Nat.le_refl _)⟩
/-- what is made of the first changes, with what is copied up to i -/
theorem rep_app (f : Chg → List ByteArray) (T : List ByteArray) (D : List Chg) (c : Chg) : ∀ n, n ≤ D.length → repK f T (D ++ [c]) n = repK f T D n
  | 0, _ => rfl
  | n + 1, h => by
    have ih := rep_app f T D c n (by omega)
    simp only [repK, ih]
    rw [aft_app _ _ _ (by omega), List.getElem?_append_left (by omega)]
theorem rep_snoc (f : Chg → List ByteArray) (T : List ByteArray) (D : List Chg) (c : Chg) : repK f T (D ++ [c]) (D ++ [c]).length = repK f T D D.length ++ (T.drop (aft D D.length)).take (c.at_ - aft D D.length) ++ f c := by
  rw [show (D ++ [c]).length = D.length + 1 by simp]
  have h : (D ++ [c])[D.length]? = some c := by simp
  rw [rep_step f T h, rep_app f T D c _ (Nat.le_refl _), aft_app _ _ _ (Nat.le_refl _)]
theorem aft_snoc (D : List Chg) (c : Chg) : aft (D ++ [c]) (D ++ [c]).length = c.at_ + c.drop.length := by simp [aft]
theorem take_drop_mid (T : List ByteArray) (a b c : Nat) (h1 : a ≤ b) (h2 : b ≤ c) : (T.drop a).take (b - a) ++ (T.drop b).take (c - b) = (T.drop a).take (c - a) := by
  have e : T.drop b = (T.drop a).drop (b - a) := by rw [List.drop_drop]; congr 1; omega
  rw [e, show c - a = (b - a) + (c - b) by omega, List.take_add]
theorem take_to (T : List ByteArray) (a b : Nat) (h : a ≤ b) : T.take a ++ (T.drop a).take (b - a) = T.take b := by
  have := take_drop_mid T 0 a b (Nat.zero_le _) h
  simpa using this
theorem take_snoc {T : List ByteArray} {j : Nat} {x : ByteArray} (h : T[j]? = some x) : (T.drop j).take (j + 1 - j) = [x] := by
  rw [drop_cons h, show j + 1 - j = 1 by omega]; rfl
def added (c : Chg) : List ByteArray := c.add
theorem lead_inv {X Y : List ByteArray} {K : List (Nat × Nat)} (h : Good X Y K) : ∀ n, n ≤ K.length → (let D := chgK X Y (K ++ [(X.length, Y.length)]) n; repK added X D D.length ++ (X.drop (aft D D.length)).take (fI (K ++ [(X.length, Y.length)]) n - aft D D.length) = Y.take (fJ (K ++ [(X.length, Y.length)]) n) ∧ aft D D.length ≤ fI (K ++ [(X.length, Y.length)]) n)
  | 0, _ => by simp [chgK, repK, aft, fI, fJ]
  | n + 1, hn => by
    obtain ⟨ih, ha⟩ := lead_inv h n (by omega)
    obtain ⟨x, hx⟩ : ∃ x, K[n]? = some x := ⟨_, List.getElem?_eq_getElem (show n < K.length by omega)⟩
    have hxE : (K ++ [(X.length, Y.length)])[n]? = some x := by rw [List.getElem?_append_left (by omega)]; exact hx
    have hr := h.rise.1 n x hxE
    obtain ⟨he, hl1, hl2⟩ := h.eq n x hx
    have eI : fI (K ++ [(X.length, Y.length)]) (n + 1) = x.1 + 1 := by simp [fI, hxE]
    have eJ : fJ (K ++ [(X.length, Y.length)]) (n + 1) = x.2 + 1 := by simp [fJ, hxE]
    have hz := List.getElem?_eq_getElem hl1
    generalize X[x.1] = z at hz
    have hz2 := he.symm.trans hz
    simp only at ih ha ⊢
    by_cases hc : fI (K ++ [(X.length, Y.length)]) n < x.1 ∨ fJ (K ++ [(X.length, Y.length)]) n < x.2
    · rw [chg_yes hxE hc, rep_snoc, aft_snoc, eI, eJ]
      generalize fI (K ++ [(X.length, Y.length)]) n = I at *
      generalize fJ (K ++ [(X.length, Y.length)]) n = J at *
      generalize chgK X Y (K ++ [(X.length, Y.length)]) n = D at *
      have hl : I + ((X.drop I).take (x.1 - I)).length = x.1 := by simp only [List.length_take, List.length_drop]; omega
      refine ⟨?_, by simp only; omega⟩
      show repK added X D D.length ++ (X.drop (aft D D.length)).take (I - aft D D.length) ++ (Y.drop J).take (x.2 - J) ++ (X.drop (I + ((X.drop I).take (x.1 - I)).length)).take (x.1 + 1 - (I + ((X.drop I).take (x.1 - I)).length)) = _
      rw [hl, ih, take_snoc hz, take_to _ _ _ hr.2, ← take_snoc hz2, take_to _ _ _ (Nat.le_succ _)]
    · rw [chg_no hxE hc, eI, eJ]
      generalize fI (K ++ [(X.length, Y.length)]) n = I at *
      generalize fJ (K ++ [(X.length, Y.length)]) n = J at *
      generalize chgK X Y (K ++ [(X.length, Y.length)]) n = D at *
      obtain rfl : I = x.1 := by omega
      obtain rfl : J = x.2 := by omega
      refine ⟨?_, by omega⟩
      rw [← take_drop_mid X _ x.1 (x.1 + 1) ha (Nat.le_succ _), ← List.append_assoc, ih, take_snoc hz, ← take_snoc hz2, take_to _ _ _ (Nat.le_succ _)]
/-- the changes lead from X to Y -/
theorem leads {X Y : List ByteArray} {K : List (Nat × Nat)} (h : Good X Y K) : rep added X (chgK X Y (K ++ [(X.length, Y.length)]) (K ++ [(X.length, Y.length)]).length) = Y := by
  obtain ⟨ih, ha⟩ := lead_inv h K.length (Nat.le_refl _)
  have hxE : (K ++ [(X.length, Y.length)])[K.length]? = some (X.length, Y.length) := by simp
  have hr := h.rise.1 _ _ hxE
  rw [show (K ++ [(X.length, Y.length)]).length = K.length + 1 by simp]
  simp only at ih ha hr
  unfold rep
  by_cases hc : fI (K ++ [(X.length, Y.length)]) K.length < X.length ∨ fJ (K ++ [(X.length, Y.length)]) K.length < Y.length
  · rw [chg_yes hxE hc, rep_snoc, aft_snoc]
    generalize fI (K ++ [(X.length, Y.length)]) K.length = I at *
    generalize fJ (K ++ [(X.length, Y.length)]) K.length = J at *
    generalize chgK X Y (K ++ [(X.length, Y.length)]) K.length = D at *
    have hl : I + ((X.drop I).take (X.length - I)).length = X.length := by simp only [List.length_take, List.length_drop]; omega
    show repK added X D D.length ++ (X.drop (aft D D.length)).take (I - aft D D.length) ++ (Y.drop J).take (Y.length - J) ++ X.drop (I + ((X.drop I).take (X.length - I)).length) = _
    rw [hl, ih, take_to _ _ _ hr.2, List.drop_length, List.append_nil, List.take_length]
  · rw [chg_no hxE hc]
    generalize fI (K ++ [(X.length, Y.length)]) K.length = I at *
    generalize fJ (K ++ [(X.length, Y.length)]) K.length = J at *
    generalize chgK X Y (K ++ [(X.length, Y.length)]) K.length = D at *
    obtain rfl : I = X.length := by omega
    obtain rfl : J = Y.length := by omega
    rw [List.take_length] at ih
    rw [← ih]
    congr 1
    rw [List.take_of_length_le (by rw [List.length_drop]; omega)]
/-- the changes back -/
def turned (X Y : List ByteArray) (K : List (Nat × Nat)) : List Chg := chgK Y X (K.map swp ++ [(Y.length, X.length)]) (K.map swp ++ [(Y.length, X.length)]).length
theorem leads_back {X Y : List ByteArray} {K : List (Nat × Nat)} (h : Good X Y K) : rep added Y (turned X Y K) = X := by
  exact leads h.swap
/-- how many tokens more there are before change n -/
def more (D : List Chg) : Nat → Int
  | 0 => 0
  | n + 1 => more D n + ((D[n]?.map fun c => (c.add.length : Int) - c.drop.length).getD 0)
def turn1 (c : Chg) (m : Int) : Chg := ⟨((c.at_ : Int) + m).toNat, c.add, c.drop⟩
def backL (D : List Chg) : Nat → List Chg
  | 0 => []
  | n + 1 => backL D n ++ (D[n]?.map fun c => turn1 c (more D n)).toList
theorem more_app (D : List Chg) (c : Chg) : ∀ n, n ≤ D.length → more (D ++ [c]) n = more D n
  | 0, _ => rfl
  | n + 1, h => by
    simp only [more, more_app D c n (by omega)]
    rw [List.getElem?_append_left (by omega)]
theorem back_app (D : List Chg) (c : Chg) : ∀ n, n ≤ D.length → backL (D ++ [c]) n = backL D n
  | 0, _ => rfl
  | n + 1, h => by
    simp only [backL, back_app D c n (by omega)]
    rw [List.getElem?_append_left (by omega), more_app D c n (by omega)]
theorem more_snoc (D : List Chg) (c : Chg) : more (D ++ [c]) (D ++ [c]).length = more D D.length + ((c.add.length : Int) - c.drop.length) := by
  rw [show (D ++ [c]).length = D.length + 1 by simp]
  simp only [more, more_app D c _ (Nat.le_refl _)]
  simp
theorem back_snoc (D : List Chg) (c : Chg) : backL (D ++ [c]) (D ++ [c]).length = backL D D.length ++ [turn1 c (more D D.length)] := by
  rw [show (D ++ [c]).length = D.length + 1 by simp]
  simp only [backL, back_app D c _ (Nat.le_refl _), more_app D c _ (Nat.le_refl _)]
  simp
theorem swp_E (X Y : List ByteArray) (K : List (Nat × Nat)) : K.map swp ++ [(Y.length, X.length)] = (K ++ [(X.length, Y.length)]).map swp := by simp [swp]
theorem good_le {X Y : List ByteArray} {K : List (Nat × Nat)} (h : Good X Y K) (n : Nat) (x : Nat × Nat) (hx : (K ++ [(X.length, Y.length)])[n]? = some x) : x.1 ≤ X.length ∧ x.2 ≤ Y.length := by
  have hn := (List.getElem?_eq_some_iff.1 hx).1
  have g := rise_le h.rise ((K ++ [(X.length, Y.length)]).length - (n + 1)) (n + 1) (by omega)
  have e1 : fI (K ++ [(X.length, Y.length)]) (n + 1) = x.1 + 1 := by simp [fI, hx]
  have e2 : fJ (K ++ [(X.length, Y.length)]) (n + 1) = x.2 + 1 := by simp [fJ, hx]
  omega
theorem back_inv {X Y : List ByteArray} {K : List (Nat × Nat)} (h : Good X Y K) : ∀ n, n ≤ (K ++ [(X.length, Y.length)]).length → (let D := chgK X Y (K ++ [(X.length, Y.length)]) n; backL D D.length = chgK Y X (K.map swp ++ [(Y.length, X.length)]) n ∧ (fI (K ++ [(X.length, Y.length)]) n : Int) + more D D.length = fJ (K ++ [(X.length, Y.length)]) n)
  | 0, _ => by simp [chgK, backL, more, fI, fJ]
  | n + 1, hn => by
    obtain ⟨ih, hm⟩ := back_inv h n (by omega)
    obtain ⟨x, hx⟩ : ∃ x, (K ++ [(X.length, Y.length)])[n]? = some x := ⟨_, List.getElem?_eq_getElem (show n < (K ++ [(X.length, Y.length)]).length by omega)⟩
    have hr := h.rise.1 n x hx
    have hl := good_le h n x hx
    have hxs : (K.map swp ++ [(Y.length, X.length)])[n]? = some (swp x) := by rw [swp_E, List.getElem?_map, hx]; rfl
    have eI : fI (K ++ [(X.length, Y.length)]) (n + 1) = x.1 + 1 := by simp [fI, hx]
    have eJ : fJ (K ++ [(X.length, Y.length)]) (n + 1) = x.2 + 1 := by simp [fJ, hx]
    have sI : fI (K.map swp ++ [(Y.length, X.length)]) n = fJ (K ++ [(X.length, Y.length)]) n := by rw [swp_E, fI_swp]
    have sJ : fJ (K.map swp ++ [(Y.length, X.length)]) n = fI (K ++ [(X.length, Y.length)]) n := by rw [swp_E, fJ_swp]
    simp only at ih hm ⊢
    by_cases hc : fI (K ++ [(X.length, Y.length)]) n < x.1 ∨ fJ (K ++ [(X.length, Y.length)]) n < x.2
    · rw [chg_yes hx hc, chg_yes hxs (by rw [sI, sJ]; exact hc.symm), back_snoc, more_snoc, eI, eJ, sI, sJ, ih]
      generalize fI (K ++ [(X.length, Y.length)]) n = I at *
      generalize fJ (K ++ [(X.length, Y.length)]) n = J at *
      generalize chgK X Y (K ++ [(X.length, Y.length)]) n = D at *
      have l1 : ((X.drop I).take (x.1 - I)).length = x.1 - I := by simp only [List.length_take, List.length_drop]; omega
      have l2 : ((Y.drop J).take (x.2 - J)).length = x.2 - J := by simp only [List.length_take, List.length_drop]; omega
      refine ⟨?_, ?_⟩
      · have : turn1 ⟨I, (X.drop I).take (x.1 - I), (Y.drop J).take (x.2 - J)⟩ (more D D.length) = ⟨J, (Y.drop J).take ((swp x).1 - J), (X.drop I).take ((swp x).2 - I)⟩ := by
          unfold turn1 swp
          simp only [Chg.mk.injEq, and_true]
          omega
        rw [this]
      · rw [l1, l2]; omega
    · rw [chg_no hx hc, chg_no hxs (by rw [sI, sJ]; exact fun q => hc q.symm), eI, eJ, ih]
      exact ⟨rfl, by omega⟩
/-- Turn's changes are the changes back -/
theorem back_turned {X Y : List ByteArray} {K : List (Nat × Nat)} (h : Good X Y K) : backL (chgK X Y (K ++ [(X.length, Y.length)]) (K ++ [(X.length, Y.length)]).length) (chgK X Y (K ++ [(X.length, Y.length)]) (K ++ [(X.length, Y.length)]).length).length = turned X Y K := by
  have := (back_inv h _ (Nat.le_refl _)).1
  rw [this]
  unfold turned
  rw [show (K.map swp ++ [(Y.length, X.length)]).length = (K ++ [(X.length, Y.length)]).length by simp]
/-- between two changes there is a token that is kept -/
def Sep (D : List Chg) : Prop := ∀ (n : Nat) (c : Chg), D[n + 1]? = some c → aft D (n + 1) < c.at_
/-- what a change must be: its Drop is there, and it is not empty -/
def Fits (X : List ByteArray) (c : Chg) : Prop := c.at_ + c.drop.length ≤ X.length ∧ (X.drop c.at_).take c.drop.length = c.drop ∧ ¬ (c.drop.length = 0 ∧ c.add.length = 0)
theorem sep_snoc {D : List Chg} {c : Chg} (h : Sep D) (hc : D ≠ [] → aft D D.length < c.at_) : Sep (D ++ [c]) := by
  intro n e he
  have hn := (List.getElem?_eq_some_iff.1 he).1
  simp at hn
  rw [aft_app _ _ _ (by omega)]
  by_cases g : n + 1 < D.length
  · rw [List.getElem?_append_left g] at he
    exact h n e he
  · have hl : D.length = n + 1 := by omega
    rw [List.getElem?_append_right (by omega), show n + 1 - D.length = 0 by omega] at he
    simp at he
    subst he
    rw [← hl]
    exact hc (fun q => by rw [q] at hl; simp at hl)
theorem chg_ok {X Y : List ByteArray} {K : List (Nat × Nat)} (h : Good X Y K) : ∀ n, n ≤ (K ++ [(X.length, Y.length)]).length → (let D := chgK X Y (K ++ [(X.length, Y.length)]) n; Sep D ∧ (D ≠ [] → aft D D.length < fI (K ++ [(X.length, Y.length)]) n) ∧ ∀ c, c ∈ D → Fits X c)
  | 0, _ => ⟨fun n c hc => by simp [chgK] at hc, fun q => absurd rfl q, fun c hc => by simp [chgK] at hc⟩
  | n + 1, hn => by
    obtain ⟨h1, h2, h3⟩ := chg_ok h n (by omega)
    obtain ⟨x, hx⟩ : ∃ x, (K ++ [(X.length, Y.length)])[n]? = some x := ⟨_, List.getElem?_eq_getElem (show n < (K ++ [(X.length, Y.length)]).length by omega)⟩
    have hr := h.rise.1 n x hx
    have hl := good_le h n x hx
    have eI : fI (K ++ [(X.length, Y.length)]) (n + 1) = x.1 + 1 := by simp [fI, hx]
    simp only at h1 h2 h3 ⊢
    by_cases hc : fI (K ++ [(X.length, Y.length)]) n < x.1 ∨ fJ (K ++ [(X.length, Y.length)]) n < x.2
    · rw [chg_yes hx hc, eI]
      generalize fI (K ++ [(X.length, Y.length)]) n = I at *
      generalize fJ (K ++ [(X.length, Y.length)]) n = J at *
      generalize chgK X Y (K ++ [(X.length, Y.length)]) n = D at *
      have l1 : ((X.drop I).take (x.1 - I)).length = x.1 - I := by simp only [List.length_take, List.length_drop]; omega
      have l2 : ((Y.drop J).take (x.2 - J)).length = x.2 - J := by simp only [List.length_take, List.length_drop]; omega
      refine ⟨sep_snoc h1 h2, fun _ => by rw [aft_snoc]; simp only; omega, fun c hcm => ?_⟩
      rw [List.mem_append] at hcm
      rcases hcm with hcm | hcm
      · exact h3 c hcm
      · simp at hcm
        subst hcm
        exact ⟨by simp only; omega, by simp only; rw [l1], by simp only; omega⟩
    · rw [chg_no hx hc, eI]
      exact ⟨h1, fun q => by have := h2 q; omega, h3⟩
theorem good_fol {X Y : List ByteArray} {K : List (Nat × Nat)} (h : Good X Y K) : Fol (chgK X Y (K ++ [(X.length, Y.length)]) (K ++ [(X.length, Y.length)]).length) X.length := by
  have hf := chg_fol (A := X) (B := Y) h.rise (fun n x hx => (good_le h n x hx).1) (K ++ [(X.length, Y.length)]).length (Nat.le_refl _)
  refine ⟨hf.1, ?_⟩
  have hok := chg_ok h _ (Nat.le_refl _)
  simp only at hok
  rcases hD : chgK X Y (K ++ [(X.length, Y.length)]) (K ++ [(X.length, Y.length)]).length with _ | ⟨c, D⟩
  · exact Nat.zero_le _
  · have h2 := hok.2.1 (by rw [hD]; simp)
    rw [hD] at h2
    have e : fI (K ++ [(X.length, Y.length)]) (K ++ [(X.length, Y.length)]).length = X.length + 1 := fI_end _ _
    omega
def moved (D : List Chg) : Nat → Nat
  | 0 => 0
  | n + 1 => moved D n + ((D[n]?.map fun c => c.drop.length + c.add.length).getD 0)
theorem moved_app (D : List Chg) (c : Chg) : ∀ n, n ≤ D.length → moved (D ++ [c]) n = moved D n
  | 0, _ => rfl
  | n + 1, h => by
    simp only [moved, moved_app D c n (by omega)]
    rw [List.getElem?_append_left (by omega)]
theorem moved_snoc (D : List Chg) (c : Chg) : moved (D ++ [c]) (D ++ [c]).length = moved D D.length + (c.drop.length + c.add.length) := by
  rw [show (D ++ [c]).length = D.length + 1 by simp]
  simp only [moved, moved_app D c _ (Nat.le_refl _)]
  simp
theorem moved_inv {X Y : List ByteArray} {K : List (Nat × Nat)} (h : Good X Y K) : ∀ n, n ≤ (K ++ [(X.length, Y.length)]).length → (let D := chgK X Y (K ++ [(X.length, Y.length)]) n; moved D D.length + 2 * n = fI (K ++ [(X.length, Y.length)]) n + fJ (K ++ [(X.length, Y.length)]) n)
  | 0, _ => by simp [chgK, moved, fI, fJ]
  | n + 1, hn => by
    have ih := moved_inv h n (by omega)
    obtain ⟨x, hx⟩ : ∃ x, (K ++ [(X.length, Y.length)])[n]? = some x := ⟨_, List.getElem?_eq_getElem (show n < (K ++ [(X.length, Y.length)]).length by omega)⟩
    have hr := h.rise.1 n x hx
    have hl := good_le h n x hx
    have eI : fI (K ++ [(X.length, Y.length)]) (n + 1) = x.1 + 1 := by simp [fI, hx]
    have eJ : fJ (K ++ [(X.length, Y.length)]) (n + 1) = x.2 + 1 := by simp [fJ, hx]
    simp only at ih ⊢
    by_cases hc : fI (K ++ [(X.length, Y.length)]) n < x.1 ∨ fJ (K ++ [(X.length, Y.length)]) n < x.2
    · rw [chg_yes hx hc, moved_snoc, eI, eJ]
      simp only [List.length_take, List.length_drop]
      omega
    · rw [chg_no hx hc, eI, eJ]
      omega
theorem moved_all {X Y : List ByteArray} {K : List (Nat × Nat)} (h : Good X Y K) : moved (chgK X Y (K ++ [(X.length, Y.length)]) (K ++ [(X.length, Y.length)]).length) (chgK X Y (K ++ [(X.length, Y.length)]) (K ++ [(X.length, Y.length)]).length).length + 2 * K.length = X.length + Y.length := by
  have := moved_inv h _ (Nat.le_refl _)
  simp only at this
  rw [fI_end, fJ_end] at this
  simp only [List.length_append, List.length_cons, List.length_nil] at this ⊢
  omega
theorem lcs_comm : ∀ (n : Nat) (a b : List ByteArray), a.length + b.length ≤ n → lcs a b = lcs b a
  | 0, a, b, h => by
    have ha : a = [] := List.eq_nil_of_length_eq_zero (by omega)
    have hb : b = [] := List.eq_nil_of_length_eq_zero (by omega)
    subst ha; subst hb; rfl
  | n + 1, [], b, _ => (lcs_nil' b).symm
  | n + 1, x :: a, [], _ => lcs_nil' _
  | n + 1, x :: a, y :: b, h => by
    simp only [List.length_cons] at h
    rw [lcs_cons, lcs_cons]
    by_cases e : x = y
    · rw [if_pos e, if_pos e.symm, lcs_comm n a b (by omega)]
    · rw [if_neg e, if_neg (Ne.symm e), lcs_comm n a (y :: b) (by simp only [List.length_cons]; omega), lcs_comm n (x :: a) b (by simp only [List.length_cons]; omega)]
      omega
theorem tb_nofit {A B : List ByteArray} {i : Nat} (hi : i < A.length) : ∀ (d j : Nat), j + d = B.length → (∀ k, j ≤ k → ¬ Fit A B i j k) → tb A B i j = tb A B (i + 1) j
  | 0, j, hj, _ => by obtain rfl : j = B.length := by omega
                      rw [tb_end2, tb_end2]
  | d + 1, j, hj, hn => by
    have hx := List.getElem?_eq_getElem hi
    have hjB : j < B.length := by omega
    have hy := List.getElem?_eq_getElem hjB
    by_cases e : A[i] = B[j]
    · exact absurd ⟨_, hx, by rw [hy, e], by rw [tb_eq hx hy e]; omega⟩ (hn j (Nat.le_refl _))
    · have h1 := tb_ne hx hy e
      have h2 := (tb_col (A := A) (i := i + 1) hy).1
      have h3 := (tb_row (B := B) (j := j) hx).1
      by_cases q : tb A B i (j + 1) = tb A B i j
      · have ih := tb_nofit (B := B) hi d (j + 1) (by omega) (fun k hk hf => by
          obtain ⟨z, a1, a2, a3⟩ := hf
          exact hn k (by omega) ⟨z, a1, a2, by rw [a3, q]⟩)
        omega
      · have h4 := (tb_col (A := A) (i := i) hy).1
        omega
theorem kp_sum (A B : List ByteArray) : ∀ i, i ≤ A.length → (kpK A B i).1.length + tb A B i (kpK A B i).2 = tb A B 0 0
  | 0, _ => by simp [kpK]
  | i + 1, hi => by
    have ih := kp_sum A B i (by omega)
    have hb := (kp_rise A B i (by omega)).2
    rcases Classical.em (∃ k, (kpK A B i).2 ≤ k ∧ Fit A B i (kpK A B i).2 k) with ⟨k, h1, h2⟩ | h
    · obtain ⟨x, a1, a2, a3⟩ := id h2
      cases hfo : firstOf x (B.drop (kpK A B i).2) with
      | none =>
        have := firstOf_none hfo (k - (kpK A B i).2)
        rw [List.getElem?_drop, show (kpK A B i).2 + (k - (kpK A B i).2) = k by omega] at this
        exact absurd a2 this
      | some s =>
        obtain ⟨f1, f2⟩ := firstOf_some hfo
        rw [List.getElem?_drop] at f1
        have hsk : (kpK A B i).2 + s ≤ k := by
          rcases Nat.lt_or_ge k ((kpK A B i).2 + s) with g | g
          · have := f2 (k - (kpK A B i).2) (by omega)
            rw [List.getElem?_drop, show (kpK A B i).2 + (k - (kpK A B i).2) = k by omega] at this
            exact absurd a2 this
          · exact g
        have hf := fit_first a1 (Nat.le_add_right _ s) hsk f1 h2
        have hh := kp_hit (i := i) (l := (kpK A B i).1) (j := (kpK A B i).2) rfl (Nat.le_add_right _ s) hf (fun q g1 g2 he => by
          have := f2 (q - (kpK A B i).2) (by omega)
          rw [List.getElem?_drop, show (kpK A B i).2 + (q - (kpK A B i).2) = q by omega] at this
          exact this (he.trans a1))
        rw [hh]
        obtain ⟨_, _, _, b3⟩ := hf
        simp only [List.length_append, List.length_cons, List.length_nil]
        omega
    · have hm := kp_miss (i := i) (l := (kpK A B i).1) (j := (kpK A B i).2) rfl (fun k hk hf => h ⟨k, hk, hf.1⟩)
      rw [hm]
      have := tb_nofit (A := A) (B := B) (i := i) (by omega) (B.length - (kpK A B i).2) (kpK A B i).2 (by omega) (fun k hk hf => h ⟨k, hk, hf⟩)
      simp only
      omega
theorem kept_lcs (X Y : List ByteArray) : (kept X Y).length = lcs X Y := by
  have h := kp_sum X Y X.length (Nat.le_refl _)
  rw [tb_end1] at h
  exact h
/-- the distance is the same from both sides -/
theorem kept_comm (X Y : List ByteArray) : (kept X Y).length = (kept Y X).length := by
  rw [kept_lcs, kept_lcs]
  exact lcs_comm _ _ _ (Nat.le_refl _)
end WM
/- Plain mathematics: tokens that are put together are the tokens again. -/
namespace WM
open Go.Lib
def emit (w : List UInt8) : List (List UInt8) := if w.isEmpty then [] else [w]
def st32 (s : List (List UInt8) × List UInt8) (c : UInt8) : List (List UInt8) × List UInt8 := if c = 32 then (s.1 ++ emit s.2, []) else (s.1, s.2 ++ [c])
def stp (s : List (List UInt8) × List UInt8) (c : UInt8) : List (List UInt8) × List UInt8 := if c = 10 then (s.1 ++ emit s.2 ++ [[10]], []) else st32 s c
def fin (s : List (List UInt8) × List UInt8) : List (List UInt8) := s.1 ++ emit s.2
def fl (l cur : List UInt8) : List (List UInt8) := (splitC 32 l cur).filter fun x => !x.isEmpty
theorem fl_fold : ∀ (l w : List UInt8) (o : List (List UInt8)), fin (l.foldl st32 (o, w)) = o ++ fl l w
  | [], w, o => by
    simp only [List.foldl_nil, fin, fl, splitC, emit]
    cases w <;> simp
  | b :: t, w, o => by
    simp only [List.foldl_cons]
    by_cases h : b = 32
    · have ih := fl_fold t [] (o ++ emit w)
      have e : fl (b :: t) w = emit w ++ fl t [] := by
        unfold fl emit
        rw [show splitC 32 (b :: t) w = w :: splitC 32 t [] by simp [splitC, h], List.filter_cons]
        cases w <;> simp
      rw [show st32 (o, w) b = (o ++ emit w, []) by simp [st32, h], ih, e, List.append_assoc]
    · have ih := fl_fold t (w ++ [b]) o
      have e : fl (b :: t) w = fl t (w ++ [b]) := by
        unfold fl
        rw [show splitC 32 (b :: t) w = splitC 32 t (w ++ [b]) by simp [splitC, h]]
      rw [show st32 (o, w) b = (o, w ++ [b]) by simp [st32, h], ih, e]
theorem stp_out : ∀ (l w : List UInt8) (o : List (List UInt8)), fin (l.foldl stp (o, w)) = o ++ fin (l.foldl stp ([], w))
  | [], w, o => by simp [fin]
  | b :: t, w, o => by
    simp only [List.foldl_cons]
    by_cases h : b = 10
    · rw [show stp (o, w) b = (o ++ emit w ++ [[10]], []) by simp [stp, h], show stp ([], w) b = (emit w ++ [[10]], []) by simp [stp, h], stp_out t [] (o ++ emit w ++ [[10]]), stp_out t [] (emit w ++ [[10]])]
      simp
    · by_cases h2 : b = 32
      · rw [show stp (o, w) b = (o ++ emit w, []) by simp [stp, st32, h2], show stp ([], w) b = (emit w, []) by simp [stp, st32, h2], stp_out t [] (o ++ emit w), stp_out t [] (emit w)]
        simp
      · rw [show stp (o, w) b = (o, w ++ [b]) by simp [stp, st32, h, h2], show stp ([], w) b = ([], w ++ [b]) by simp [stp, st32, h, h2]]
        exact stp_out t (w ++ [b]) o
/-- the tokens of lines -/
def tl : List (List UInt8) → List (List UInt8)
  | [] => []
  | x :: ls => fl x [] ++ ls.flatMap fun y => [10] :: fl y []
theorem split_ne (c : UInt8) : ∀ l cur : List UInt8, splitC c l cur ≠ []
  | [], cur => by simp [splitC]
  | b :: t, cur => by
    by_cases h : b = c
    · simp [splitC, h]
    · rw [show splitC c (b :: t) cur = splitC c t (cur ++ [b]) by simp [splitC, h]]
      exact split_ne c t _
theorem tl_tail : ∀ ls : List (List UInt8), ls ≠ [] → (ls.flatMap fun y => [10] :: fl y []) = [10] :: tl ls
  | [], h => absurd rfl h
  | x :: ls, _ => by simp [tl]
theorem tl_split : ∀ (l cur : List UInt8), tl (splitC 10 l cur) = fin (l.foldl stp (cur.foldl st32 ([], [])))
  | [], cur => by
    have := fl_fold cur [] []
    simp only [List.nil_append] at this
    simp [splitC, tl, this]
  | b :: t, cur => by
    simp only [List.foldl_cons]
    by_cases h : b = 10
    · have e := fl_fold cur [] []
      simp only [List.nil_append] at e
      rw [show splitC 10 (b :: t) cur = cur :: splitC 10 t [] by simp [splitC, h]]
      rw [show tl (cur :: splitC 10 t []) = fl cur [] ++ ((splitC 10 t []).flatMap fun y => [10] :: fl y []) from rfl, tl_tail _ (split_ne 10 t []), tl_split t []]
      generalize cur.foldl st32 ([], []) = s at *
      obtain ⟨o, w⟩ := s
      rw [show stp (o, w) b = (o ++ emit w ++ [[10]], []) by simp [stp, h], stp_out t [] (o ++ emit w ++ [[10]]), ← e]
      simp [fin]
    · rw [show splitC 10 (b :: t) cur = splitC 10 t (cur ++ [b]) by simp [splitC, h], tl_split t (cur ++ [b])]
      rw [List.foldl_append]
      simp [stp, h]
theorem flds_data (x : ByteArray) : (flds x).map (·.data.toList) = fl x.data.toList [] := by
  unfold flds fl
  rw [← pieces_data]
  generalize pieces 32 x = l
  induction l with
  | nil => rfl
  | cons y l ih =>
    have e : y.toList = y.data.toList := toList_data y
    rw [List.filter_cons, List.map_cons, List.filter_cons, ← ih, e]
    cases y.data.toList.isEmpty <;> simp
theorem tl_snoc (ls : List (List UInt8)) (y : List UInt8) : tl (ls ++ [y]) = tl ls ++ (if ls.length = 0 then [] else [[10]]) ++ fl y [] := by
  cases ls with
  | nil => simp [tl]
  | cons x ls => simp [tl]
theorem toksK_data (ls : List ByteArray) : ∀ k, k ≤ ls.length → (toksK ls k).map (·.data.toList) = tl ((ls.take k).map (·.data.toList))
  | 0, _ => by simp [toksK, tl]
  | k + 1, h => by
    have ih := toksK_data ls k (by omega)
    have hk : ls.take (k + 1) = ls.take k ++ [ls[k]] := List.take_succ_eq_append_getElem h
    have hg : ls.getD k ByteArray.empty = ls[k] := by rw [List.getD_eq_getElem?_getD, List.getElem?_eq_getElem h]; rfl
    rw [hk, List.map_append, List.map_singleton, tl_snoc, ← ih]
    simp only [toksK, List.map_append, hg, flds_data, List.length_map, List.length_take]
    by_cases h0 : 0 < k
    · rw [if_pos h0, if_neg (by omega)]; rfl
    · rw [if_neg h0, if_pos (by omega)]; rfl
/-- tokens, byte by byte -/
theorem toks_run (s : ByteArray) : (toks s).map (·.data.toList) = fin (s.data.toList.foldl stp ([], [])) := by
  unfold toks
  rw [toksK_data _ _ (Nat.le_refl _), List.take_length, pieces_data, tl_split]
  rfl
/-- what can be a token -/
def IsTok (x : ByteArray) : Prop := x = nl ∨ (x.data.toList ≠ [] ∧ ∀ b, b ∈ x.data.toList → b ≠ 10 ∧ b ≠ 32)
def okW (w : List UInt8) : Prop := ∀ b, b ∈ w → b ≠ 10 ∧ b ≠ 32
def okT (t : List UInt8) : Prop := t = [10] ∨ (t ≠ [] ∧ okW t)
theorem emit_ok {w : List UInt8} (h : okW w) : ∀ t, t ∈ emit w → okT t := by
  intro t ht
  unfold emit at ht
  cases w with
  | nil => simp at ht
  | cons b w => simp at ht; subst ht; exact .inr ⟨by simp, h⟩
theorem run_ok : ∀ (l : List UInt8) (s : List (List UInt8) × List UInt8), (∀ t, t ∈ s.1 → okT t) → okW s.2 → (∀ t, t ∈ (l.foldl stp s).1 → okT t) ∧ okW (l.foldl stp s).2
  | [], s, h1, h2 => ⟨h1, h2⟩
  | b :: t, s, h1, h2 => by
    rw [List.foldl_cons]
    refine run_ok t _ ?_ ?_
    · intro x hx
      unfold stp st32 at hx
      split at hx
      · simp only [List.mem_append] at hx
        rcases hx with (hx | hx) | hx
        · exact h1 x hx
        · exact emit_ok h2 x hx
        · simp at hx; subst hx; exact .inl rfl
      · split at hx
        · simp only [List.mem_append] at hx
          rcases hx with hx | hx
          · exact h1 x hx
          · exact emit_ok h2 x hx
        · exact h1 x hx
    · unfold stp st32
      split
      · intro x hx; simp at hx
      · split
        · intro x hx; simp at hx
        · rename_i g1 g2
          intro x hx
          simp only [List.mem_append, List.mem_singleton] at hx
          rcases hx with hx | rfl
          · exact h2 x hx
          · exact ⟨g1, g2⟩
theorem ba_ext {a b : ByteArray} (h : a.data.toList = b.data.toList) : a = b := by cases a; cases b; simpa using h
theorem toks_ok (s : ByteArray) : ∀ x, x ∈ toks s → IsTok x := by
  intro x hx
  have h := run_ok s.data.toList ([], []) (fun t ht => by simp at ht) (fun b hb => by simp at hb)
  have hm : x.data.toList ∈ (toks s).map (·.data.toList) := List.mem_map_of_mem hx
  rw [toks_run] at hm
  unfold fin at hm
  rw [List.mem_append] at hm
  have ht : okT x.data.toList := by
    rcases hm with hm | hm
    · exact h.1 _ hm
    · exact emit_ok h.2 _ hm
  rcases ht with ht | ht
  · exact .inl (ba_ext ht)
  · exact .inr ht
/-- where the scan stands behind some tokens -/
def stOf (p : List ByteArray) : List (List UInt8) × List UInt8 := match p.getLast? with
  | none => ([], [])
  | some x => if x = nl then (p.map (·.data.toList), []) else (p.dropLast.map (·.data.toList), x.data.toList)
theorem st_snoc (p : List ByteArray) (t : ByteArray) : stOf (p ++ [t]) = if t = nl then ((p ++ [t]).map (·.data.toList), []) else (p.map (·.data.toList), t.data.toList) := by
  unfold stOf
  simp only [List.getLast?_append, List.getLast?_singleton, Option.some_or, List.dropLast_concat]
theorem st_fin {p : List ByteArray} (h : ∀ x, x ∈ p → IsTok x) : fin (stOf p) = p.map (·.data.toList) := by
  rcases List.eq_nil_or_concat p with rfl | ⟨q, t, rfl⟩
  · rfl
  · rw [List.concat_eq_append, st_snoc]
    by_cases e : t = nl
    · rw [if_pos e]; simp [fin, emit]
    · rw [if_neg e]
      rcases h t (by simp) with g | g
      · exact absurd g e
      · have : t.data.toList.isEmpty = false := by
          cases hq : t.data.toList with
          | nil => exact absurd hq g.1
          | cons b w => rfl
        simp [fin, emit, this]
theorem fold_word : ∀ (w v : List UInt8) (P : List (List UInt8)), okW w → w.foldl stp (P, v) = (P, v ++ w)
  | [], v, P, _ => by simp
  | b :: w, v, P, h => by
    have hb := h b (by simp)
    rw [List.foldl_cons, show stp (P, v) b = (P, v ++ [b]) by simp [stp, st32, hb.1, hb.2], fold_word w (v ++ [b]) P (fun x hx => h x (by simp [hx]))]
    simp
theorem join_run {l : List ByteArray} (h : ∀ x, x ∈ l → IsTok x) : ∀ k, k ≤ l.length → (joinK l k).foldl stp ([], []) = stOf (l.take k)
  | 0, _ => rfl
  | k + 1, hk => by
    have ih := join_run h k (by omega)
    have ht : l.take (k + 1) = l.take k ++ [l[k]] := List.take_succ_eq_append_getElem hk
    have hg : l.getD k ByteArray.empty = l[k] := by rw [List.getD_eq_getElem?_getD, List.getElem?_eq_getElem hk]; rfl
    have hx := List.getElem?_eq_getElem hk
    have hok : IsTok l[k] := h _ (List.getElem_mem hk)
    have hp : ∀ x, x ∈ l.take k → IsTok x := fun x hx => h x (List.mem_of_mem_take hx)
    have hf := st_fin hp
    rw [ht, st_snoc]
    simp only [joinK, hg, List.foldl_append, ih]
    generalize l[k] = t at *
    by_cases e : t = nl
    · rw [if_pos e]
      have hgap : gap l k = [] := by
        cases k with
        | zero => rfl
        | succ j => simp [gap, hx, e]
      rw [hgap, e]
      show stp (stOf (l.take k)) 10 = _
      rw [show stp (stOf (l.take k)) 10 = (fin (stOf (l.take k)) ++ [[10]], []) by simp [stp, fin], hf]
      simp [nl]
    · rw [if_neg e]
      have hw : okW t.data.toList := by
        rcases hok with g | g
        · exact absurd g e
        · exact g.2
      have hs : (gap l k).foldl stp (stOf (l.take k)) = ((l.take k).map (·.data.toList), []) := by
        cases k with
        | zero => rfl
        | succ j =>
          have hj : j < l.length := by omega
          have hy := List.getElem?_eq_getElem hj
          have htj : l.take (j + 1) = l.take j ++ [l[j]] := List.take_succ_eq_append_getElem hj
          by_cases q : l[j] = nl
          · have hgap : gap l (j + 1) = [] := by simp [gap, hy, q]
            rw [hgap, htj, List.foldl_nil, st_snoc, if_pos q]
          · have hgap : gap l (j + 1) = [32] := by simp [gap, hx, hy, e, q]
            rw [hgap]
            show stp (stOf (l.take (j + 1))) 32 = _
            rw [show stp (stOf (l.take (j + 1))) 32 = (fin (stOf (l.take (j + 1))), []) by simp [stp, st32, fin], hf]
      rw [hs, fold_word _ _ _ hw]
      simp
/-- tokens that are put together are the tokens again -/
theorem toks_join {l : List ByteArray} (h : ∀ x, x ∈ l → IsTok x) : toks ⟨(joinT l).toArray⟩ = l := by
  apply data_inj
  rw [toks_run]
  show fin ((joinT l).toArray.toList.foldl stp ([], [])) = _
  rw [List.toList_toArray]
  unfold joinT
  rw [join_run h _ (Nat.le_refl _), List.take_length, st_fin h]
end WM
/- Plain mathematics: what is wrong with changes; what right ones are. -/
namespace WM
/-- a change whose place may be any number -/
structure ZC where
  at_ : Int
  drop : List ByteArray
  add : List ByteArray
def ZC.nat (c : ZC) : Chg := ⟨c.at_.toNat, c.drop, c.add⟩
def Chg.z (c : Chg) : ZC := ⟨c.at_, c.drop, c.add⟩
def aftZ (D : List ZC) : Nat → Int
  | 0 => 0
  | n + 1 => (D[n]?.map fun c => c.at_ + (c.drop.length : Int)).getD 0
open Classical in
noncomputable def tokB (l : List ByteArray) : Bool := decide (∀ x, x ∈ l → IsTok x)
theorem tokB_iff (l : List ByteArray) : tokB l = true ↔ ∀ x, x ∈ l → IsTok x := by unfold tokB; simp
open Classical in
noncomputable def fitB (Z l : List ByteArray) : Bool := decide (Z.take l.length = l)
theorem fitB_iff (Z l : List ByteArray) : fitB Z l = true ↔ Z.take l.length = l := by unfold fitB; simp
/-- what is wrong with change c, that is number n, where the one before ends at a -/
noncomputable def one (X : List ByteArray) (n : Nat) (a : Int) (c : ZC) : Int :=
  if c.at_ < 0 ∨ (X.length : Int) < c.at_ then 1
  else if 0 < n ∧ c.at_ ≤ a then 7
  else if c.drop.length = 0 ∧ c.add.length = 0 then 3
  else if tokB c.drop = false ∨ tokB c.add = false then 3
  else if fitB (X.drop c.at_.toNat) c.drop = false then 13
  else 0
noncomputable def flt (X : List ByteArray) (D : List ZC) : Nat → Int
  | 0 => 0
  | n + 1 => if flt X D n = 0 then (D[n]?.map (one X n (aftZ D n))).getD 0 else flt X D n
noncomputable def fault (X : List ByteArray) (D : List ZC) : Int := flt X D D.length
theorem flt_step {X : List ByteArray} {D : List ZC} {n : Nat} {c : ZC} (h : D[n]? = some c) (h0 : flt X D n = 0) : flt X D (n + 1) = one X n (aftZ D n) c := by simp [flt, h, h0]
theorem flt_stays {X : List ByteArray} {D : List ZC} {n : Nat} (h : flt X D n ≠ 0) : ∀ d, flt X D (n + d) = flt X D n
  | 0 => rfl
  | d + 1 => by
    have ih := flt_stays h d
    show (if flt X D (n + d) = 0 then _ else flt X D (n + d)) = _
    rw [ih, if_neg h]
theorem fault_of {X : List ByteArray} {D : List ZC} {n : Nat} {c : ZC} {k : Int} (h : D[n]? = some c) (h0 : flt X D n = 0) (h1 : one X n (aftZ D n) c = k) (hk : k ≠ 0) : fault X D = k := by
  have hn := (List.getElem?_eq_some_iff.1 h).1
  have hs := flt_step h h0
  have := flt_stays (X := X) (D := D) (n := n + 1) (by rw [hs, h1]; exact hk) (D.length - (n + 1))
  rw [show n + 1 + (D.length - (n + 1)) = D.length by omega] at this
  unfold fault
  rw [this, hs, h1]
theorem flt_back {X : List ByteArray} {D : List ZC} {n m : Nat} (h : flt X D n = 0) (hm : m ≤ n) : flt X D m = 0 := by
  by_cases h1 : flt X D m = 0
  · exact h1
  · have := flt_stays h1 (n - m)
    rw [show m + (n - m) = n by omega, h] at this
    exact this.symm
theorem aftZ_step {D : List ZC} {n : Nat} {c : ZC} (h : D[n]? = some c) : aftZ D (n + 1) = c.at_ + c.drop.length := by simp [aftZ, h]
/-- nothing is wrong with a change: what it is -/
theorem one_ok {X : List ByteArray} {n : Nat} {a : Int} {c : ZC} (h : one X n a c = 0) : (0 ≤ c.at_ ∧ c.at_ ≤ X.length) ∧ (0 < n → a < c.at_) ∧ ¬ (c.drop.length = 0 ∧ c.add.length = 0) ∧ (∀ x, x ∈ c.drop → IsTok x) ∧ (∀ x, x ∈ c.add → IsTok x) ∧ (X.drop c.at_.toNat).take c.drop.length = c.drop := by
  unfold one at h
  split at h
  · omega
  split at h
  · omega
  split at h
  · omega
  split at h
  · omega
  split at h
  · omega
  rename_i h1 h2 h3 h4 h5
  refine ⟨by omega, fun h => by omega, h3, ?_, ?_, ?_⟩
  · exact (tokB_iff _).1 (by cases hq : tokB c.drop <;> simp_all)
  · exact (tokB_iff _).1 (by cases hq : tokB c.add <;> simp_all)
  · exact (fitB_iff _ _).1 (by simpa using h5)
theorem fit_len {X : List ByteArray} {p : Nat} {l : List ByteArray} (h : (X.drop p).take l.length = l) : l.length ≤ X.length - p := by
  have := congrArg List.length h
  simp only [List.length_take, List.length_drop] at this
  omega
theorem one_at {X : List ByteArray} {D : List ZC} (h : fault X D = 0) {n : Nat} {c : ZC} (hc : D[n]? = some c) : one X n (aftZ D n) c = 0 := by
  have hn := (List.getElem?_eq_some_iff.1 hc).1
  have h1 := flt_back h (show n + 1 ≤ D.length by omega)
  rw [flt_step hc (flt_back h (by omega))] at h1
  exact h1
theorem aft_nat {X : List ByteArray} {D : List ZC} (h : fault X D = 0) (n : Nat) (hn : n ≤ D.length) : aftZ D n = (aft (D.map ZC.nat) n : Nat) := by
  cases n with
  | zero => rfl
  | succ n =>
    obtain ⟨c, hc⟩ : ∃ c, D[n]? = some c := ⟨_, List.getElem?_eq_getElem (show n < D.length by omega)⟩
    have h1 := (one_ok (one_at h hc)).1
    simp only [aftZ, aft, List.getElem?_map, hc, Option.map_some, Option.getD_some, ZC.nat]
    omega
theorem nat_at {D : List ZC} {n : Nat} {c : Chg} (h : (D.map ZC.nat)[n]? = some c) : ∃ z, D[n]? = some z ∧ c = z.nat := by
  rw [List.getElem?_map, Option.map_eq_some_iff] at h
  obtain ⟨z, h1, h2⟩ := h
  exact ⟨z, h1, h2.symm⟩
theorem fol_nat {X : List ByteArray} {D : List ZC} (h : fault X D = 0) : Fol (D.map ZC.nat) X.length := by
  refine ⟨fun n c hc => ?_, ?_⟩
  · obtain ⟨z, hz, rfl⟩ := nat_at hc
    have hn := (List.getElem?_eq_some_iff.1 hz).1
    have h1 := aft_nat h n (by omega)
    obtain ⟨⟨h2, _⟩, h3, _⟩ := one_ok (one_at h hz)
    cases n with
    | zero => exact Nat.zero_le _
    | succ n =>
      have := h3 (by omega)
      rw [h1] at this
      show _ ≤ z.at_.toNat
      omega
  · rw [List.length_map]
    rcases Nat.eq_zero_or_pos D.length with e | e
    · rw [e]; exact Nat.zero_le _
    · obtain ⟨m, hm⟩ : ∃ m, D.length = m + 1 := ⟨D.length - 1, by omega⟩
      obtain ⟨z, hz⟩ : ∃ z, D[m]? = some z := ⟨_, List.getElem?_eq_getElem (show m < D.length by omega)⟩
      obtain ⟨⟨h2, h4⟩, _, _, _, _, h3⟩ := one_ok (one_at h hz)
      have := fit_len h3
      rw [hm]
      simp only [aft, List.getElem?_map, hz, Option.map_some, Option.getD_some, ZC.nat]
      omega
theorem sep_nat {X : List ByteArray} {D : List ZC} (h : fault X D = 0) : Sep (D.map ZC.nat) := by
  intro n c hc
  obtain ⟨z, hz, rfl⟩ := nat_at hc
  have hn := (List.getElem?_eq_some_iff.1 hz).1
  have h1 := aft_nat h (n + 1) (by omega)
  obtain ⟨⟨h2, _⟩, h3, _⟩ := one_ok (one_at h hz)
  have := h3 (by omega)
  rw [h1] at this
  show _ < z.at_.toNat
  omega
theorem fits_nat {X : List ByteArray} {D : List ZC} (h : fault X D = 0) : ∀ c, c ∈ D.map ZC.nat → Fits X c ∧ (∀ x, x ∈ c.drop → IsTok x) ∧ (∀ x, x ∈ c.add → IsTok x) := by
  intro c hc
  obtain ⟨n, hn⟩ := List.getElem?_of_mem hc
  obtain ⟨z, hz, rfl⟩ := nat_at hn
  obtain ⟨⟨h2, h4⟩, _, h5, h6, h7, h3⟩ := one_ok (one_at h hz)
  have := fit_len h3
  refine ⟨⟨?_, h3, h5⟩, h6, h7⟩
  show z.at_.toNat + z.drop.length ≤ _
  omega
/-- where the changes lie in the result: as long as what is made before them -/
theorem rep_at {T : List ByteArray} {D : List Chg} (hF : Fol D T.length) : ∀ n, n ≤ D.length → ((repK added T D n).length : Int) = aft D n + more D n
  | 0, _ => by simp [repK, aft, more]
  | n + 1, hn => by
    have ih := rep_at hF n (by omega)
    obtain ⟨c, hc⟩ : ∃ c, D[n]? = some c := ⟨_, List.getElem?_eq_getElem (show n < D.length by omega)⟩
    have h1 := fol_at hF hc
    rw [rep_step added T hc, aft_step hc]
    have : more D (n + 1) = more D n + ((c.add.length : Int) - c.drop.length) := by simp [more, hc]
    rw [this]
    simp only [List.length_append, List.length_take, List.length_drop, added]
    omega
/-- the same with what is copied up to change n -/
theorem at_more {T : List ByteArray} {D : List Chg} (hF : Fol D T.length) {n : Nat} {c : Chg} (hc : D[n]? = some c) : ((repK added T D n ++ (T.drop (aft D n)).take (c.at_ - aft D n)).length : Int) = c.at_ + more D n := by
  have hn := (List.getElem?_eq_some_iff.1 hc).1
  have h1 := rep_at hF n (by omega)
  have h2 := fol_at hF hc
  simp only [List.length_append, List.length_take, List.length_drop]
  omega
section
variable {X : List ByteArray} {n : Nat} {a : Int} {c : ZC}
theorem one_1 (h : c.at_ < 0 ∨ (X.length : Int) < c.at_) : one X n a c = 1 := by unfold one; rw [if_pos h]
theorem one_7 (h1 : ¬ (c.at_ < 0 ∨ (X.length : Int) < c.at_)) (h2 : 0 < n ∧ c.at_ ≤ a) : one X n a c = 7 := by unfold one; rw [if_neg h1, if_pos h2]
theorem one_3 (h1 : ¬ (c.at_ < 0 ∨ (X.length : Int) < c.at_)) (h2 : ¬ (0 < n ∧ c.at_ ≤ a)) (h3 : c.drop.length = 0 ∧ c.add.length = 0) : one X n a c = 3 := by unfold one; rw [if_neg h1, if_neg h2, if_pos h3]
theorem one_3t (h1 : ¬ (c.at_ < 0 ∨ (X.length : Int) < c.at_)) (h2 : ¬ (0 < n ∧ c.at_ ≤ a)) (h4 : tokB c.drop = false ∨ tokB c.add = false) : one X n a c = 3 := by
  unfold one; rw [if_neg h1, if_neg h2]
  by_cases h3 : c.drop.length = 0 ∧ c.add.length = 0
  · rw [if_pos h3]
  · rw [if_neg h3, if_pos h4]
theorem one_13 (h1 : ¬ (c.at_ < 0 ∨ (X.length : Int) < c.at_)) (h2 : ¬ (0 < n ∧ c.at_ ≤ a)) (h3 : ¬ (c.drop.length = 0 ∧ c.add.length = 0)) (h4 : ¬ (tokB c.drop = false ∨ tokB c.add = false)) (h5 : fitB (X.drop c.at_.toNat) c.drop = false) : one X n a c = 13 := by unfold one; rw [if_neg h1, if_neg h2, if_neg h3, if_neg h4, if_pos h5]
theorem one_0 (h1 : ¬ (c.at_ < 0 ∨ (X.length : Int) < c.at_)) (h2 : ¬ (0 < n ∧ c.at_ ≤ a)) (h3 : ¬ (c.drop.length = 0 ∧ c.add.length = 0)) (h4 : ¬ (tokB c.drop = false ∨ tokB c.add = false)) (h5 : fitB (X.drop c.at_.toNat) c.drop = true) : one X n a c = 0 := by unfold one; rw [if_neg h1, if_neg h2, if_neg h3, if_neg h4, if_neg (by rw [h5]; simp)]
end
end WM
/- Plain mathematics: the first changes alone; tokens one by one. -/
namespace WM
theorem take_at {α : Type} {D : List α} {m n : Nat} (h : n < m) : (D.take m)[n]? = D[n]? := by
  rw [List.getElem?_take, if_pos h]
theorem take_at' {α : Type} {D : List α} {m n : Nat} {c : α} (h : (D.take m)[n]? = some c) : n < m ∧ D[n]? = some c := by
  rw [List.getElem?_take] at h
  by_cases q : n < m
  · rw [if_pos q] at h; exact ⟨q, h⟩
  · rw [if_neg q] at h; cases h
theorem aftZ_take (D : List ZC) (m n : Nat) (h : n ≤ m) : aftZ (D.take m) n = aftZ D n := by
  cases n with
  | zero => rfl
  | succ n => simp only [aftZ]; rw [take_at (by omega)]
theorem aft_take (D : List Chg) (m n : Nat) (h : n ≤ m) : aft (D.take m) n = aft D n := by
  cases n with
  | zero => rfl
  | succ n => simp only [aft]; rw [take_at (by omega)]
theorem flt_take (X : List ByteArray) (D : List ZC) (m : Nat) : ∀ n, n ≤ m → flt X (D.take m) n = flt X D n
  | 0, _ => rfl
  | n + 1, h => by simp only [flt]; rw [flt_take X D m n (by omega), take_at (by omega), aftZ_take _ _ _ (by omega)]
theorem repK_take (f : Chg → List ByteArray) (T : List ByteArray) (D : List Chg) (m : Nat) : ∀ n, n ≤ m → repK f T (D.take m) n = repK f T D n
  | 0, _ => rfl
  | n + 1, h => by simp only [repK]; rw [repK_take f T D m n (by omega), take_at (by omega), aft_take _ _ _ (by omega)]
theorem more_take (D : List Chg) (m : Nat) : ∀ n, n ≤ m → more (D.take m) n = more D n
  | 0, _ => rfl
  | n + 1, h => by simp only [more]; rw [more_take D m n (by omega), take_at (by omega)]
/-- up to change n nothing is wrong: nothing is wrong with the first n changes -/
theorem fault_take {X : List ByteArray} {D : List ZC} {n : Nat} (h : flt X D n = 0) (hn : n ≤ D.length) : fault X (D.take n) = 0 := by
  unfold fault
  rw [List.length_take, Nat.min_eq_left hn, flt_take _ _ _ _ (Nat.le_refl _)]
  exact h
theorem map_take (D : List ZC) (n : Nat) : (D.take n).map ZC.nat = (D.map ZC.nat).take n := List.map_take
theorem aft_flt {X : List ByteArray} {D : List ZC} {n : Nat} (h : flt X D n = 0) (hn : n ≤ D.length) : aftZ D n = (aft (D.map ZC.nat) n : Nat) ∧ aft (D.map ZC.nat) n ≤ X.length := by
  have h1 := fault_take h hn
  have h2 := aft_nat h1 n (by rw [List.length_take]; omega)
  have h3 := (fol_nat h1).2
  rw [List.length_map, List.length_take, Nat.min_eq_left hn, map_take, aft_take _ _ _ (Nat.le_refl _)] at h3
  rw [aftZ_take _ _ _ (Nat.le_refl _), map_take, aft_take _ _ _ (Nat.le_refl _)] at h2
  exact ⟨h2, h3⟩
theorem nat_get {D : List ZC} {n : Nat} {c : ZC} (h : D[n]? = some c) : (D.map ZC.nat)[n]? = some c.nat := by rw [List.getElem?_map, h]; rfl
/-- where the turned change lies: as long as what was made before it -/
theorem at_flt {X : List ByteArray} {D : List ZC} {n : Nat} {c : ZC} (h : flt X D (n + 1) = 0) (hc : D[n]? = some c) : aft (D.map ZC.nat) n ≤ c.at_.toNat ∧ ((repK added X (D.map ZC.nat) n ++ (X.drop (aft (D.map ZC.nat) n)).take (c.at_.toNat - aft (D.map ZC.nat) n)).length : Int) = c.at_.toNat + more (D.map ZC.nat) n := by
  have hn := (List.getElem?_eq_some_iff.1 hc).1
  have h1 := fault_take h (by omega)
  have hF := fol_nat h1
  have hg : ((D.take (n + 1)).map ZC.nat)[n]? = some c.nat := by rw [map_take, take_at (by omega)]; exact nat_get hc
  have h2 := at_more (T := X) hF hg
  have h3 := hF.1 n _ hg
  rw [map_take, aft_take _ _ _ (by omega)] at h3
  rw [map_take, repK_take _ _ _ _ _ (by omega), aft_take _ _ _ (by omega), more_take _ _ _ (by omega)] at h2
  exact ⟨h3, h2⟩
theorem back_flt {X : List ByteArray} {D : List ZC} {n : Nat} {c : ZC} (h : flt X D (n + 1) = 0) (hc : D[n]? = some c) : backL (D.map ZC.nat) (n + 1) = backL (D.map ZC.nat) n ++ [⟨(repK added X (D.map ZC.nat) n ++ (X.drop (aft (D.map ZC.nat) n)).take (c.at_.toNat - aft (D.map ZC.nat) n)).length, c.add, c.drop⟩] := by
  have h1 := (at_flt h hc).2
  simp only [backL, nat_get hc, Option.map_some, Option.toList_some, turn1]
  congr 1
  rw [show ((c.nat.at_ : Nat) : Int) + more (D.map ZC.nat) n = ((repK added X (D.map ZC.nat) n ++ (X.drop (aft (D.map ZC.nat) n)).take (c.at_.toNat - aft (D.map ZC.nat) n)).length : Nat) from h1.symm]
  rfl
/-- a token is its own token -/
theorem toks_self {x : ByteArray} (h : IsTok x) : toks x = [x] := by
  have h2 := toks_join (l := [x]) (fun y hy => by simp at hy; subst hy; exact h)
  have e : (⟨(joinT [x]).toArray⟩ : ByteArray) = x := by
    apply ba_ext
    simp [joinT, joinK, gap]
  rw [e] at h2
  exact h2
theorem toks_iff (x : ByteArray) : toks x = [x] ↔ IsTok x := ⟨fun h => toks_ok x x (by rw [h]; simp), toks_self⟩
theorem tokB_false {l : List ByteArray} {j : Nat} {x : ByteArray} (h : l[j]? = some x) (hx : ¬ IsTok x) : tokB l = false := by
  cases hq : tokB l
  · rfl
  · exact absurd ((tokB_iff l).1 hq x (List.mem_of_getElem? h)) hx
theorem tokB_app (a b : List ByteArray) : tokB (a ++ b) = (tokB a && tokB b) := by
  rw [Bool.eq_iff_iff, Bool.and_eq_true, tokB_iff, tokB_iff, tokB_iff]
  constructor
  · intro h; exact ⟨fun x hx => h x (by simp [hx]), fun x hx => h x (by simp [hx])⟩
  · rintro ⟨h1, h2⟩ x hx
    rcases List.mem_append.1 hx with hx | hx
    · exact h1 x hx
    · exact h2 x hx
end WM
