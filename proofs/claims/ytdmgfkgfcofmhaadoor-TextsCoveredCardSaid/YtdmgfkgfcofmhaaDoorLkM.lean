/- What is left of the leaks when they are covered, too: plain mathematics. -/
import Derived.Test.YtdmgfkgfcofmhaaDoorStretchW
import Derived.Test.YtdmgfkgfcofmhaaDoorLeaks
namespace WM
theorem list_get (s : ByteArray) (i : Nat) (h : i < s.size) : s.data.toList.getD i 0 = s.get! i := by
  rw [List.getD_eq_getElem?_getD, get_list s i h]; rfl
theorem wdb_get {s : ByteArray} {i : Nat} (h : i < s.size) : wdb s.data.toList i = wordB (s.get! i) := by
  unfold wdb
  rw [list_get s i h, decide_eq_true (show i < s.data.toList.length by simpa using h)]
  rfl
theorem wdb_end {l : List UInt8} {i : Nat} (h : l.length ≤ i) : wdb l i = false := by
  unfold wdb
  rw [decide_eq_false (by omega)]
  rfl
/-- how far the runs are -/
structure RunOk (l : List UInt8) (pos : Nat) (st : Option Nat) (acc : List (Nat × Nat)) : Prop where
  le : pos ≤ l.length
  run : ∀ a, st = some a → a < pos ∧ (∀ i, a ≤ i → i < pos → wdb l i = true) ∧ (a = 0 ∨ wdb l (a - 1) = false)
  out : st = none → pos = 0 ∨ wdb l (pos - 1) = false
  words : ∀ x, x ∈ acc → IsWord l x
  all : ∀ i, i < st.getD pos → wdb l i = true → ∃ x, x ∈ acc ∧ x.1 ≤ i ∧ i < x.2
def AllWords (l : List UInt8) (R : List (Nat × Nat)) : Prop := (∀ x, x ∈ R → IsWord l x) ∧ ∀ i, wdb l i = true → ∃ x, x ∈ R ∧ x.1 ≤ i ∧ i < x.2
theorem runs_close {s : ByteArray} {st : Option Nat} {acc : List (Nat × Nat)} (h : RunOk s.data.toList s.size st acc) : AllWords s.data.toList (Go.Lib.closeSpans s (acc, st)) := by
  have hl : s.data.toList.length = s.size := by simp
  cases st with
  | none => exact ⟨h.words, fun i hi => h.all i (by have := wdb_lt hi; show i < s.size; omega) hi⟩
  | some a =>
    have hr := h.run a rfl
    refine ⟨fun x hx => ?_, fun i hi => ?_⟩
    · rcases List.mem_append.1 hx with hx | hx
      · exact h.words x hx
      · obtain rfl := List.mem_singleton.1 hx
        exact ⟨hr.1, by dsimp only; omega, hr.2.1, hr.2.2, wdb_end (by dsimp only; omega)⟩
    · have := wdb_lt hi
      by_cases h1 : i < a
      · obtain ⟨x, hx, h2⟩ := h.all i h1 hi
        exact ⟨x, List.mem_append_left _ hx, h2⟩
      · exact ⟨_, List.mem_append_right _ (List.mem_singleton.2 rfl), by dsimp only; omega, by dsimp only; omega⟩
theorem runs_ok (s : ByteArray) : ∀ (f pos : Nat) (st : Option Nat) (acc : List (Nat × Nat)), s.size ≤ pos + f → RunOk s.data.toList pos st acc → AllWords s.data.toList (Go.Lib.closeSpans s (runsB wordB s f pos st acc))
  | 0, pos, st, acc, hf, h => by
    have hl : s.data.toList.length = s.size := by simp
    obtain rfl : pos = s.size := by have := h.le; omega
    exact runs_close h
  | f + 1, pos, st, acc, hf, h => by
    have hl : s.data.toList.length = s.size := by simp
    by_cases hlt : pos < s.size
    · cases hq : wordB (s.get! pos)
      · rw [runsB_no hlt hq]
        have hw : wdb s.data.toList pos = false := by rw [wdb_get hlt]; exact hq
        refine runs_ok s f (pos + 1) none _ (by omega) ⟨by omega, (fun a h => by cases h), fun _ => .inr hw, fun x hx => ?_, fun i hi hi2 => ?_⟩
        · cases st with
          | none => exact h.words x hx
          | some a =>
            rcases List.mem_append.1 hx with hx | hx
            · exact h.words x hx
            · obtain rfl := List.mem_singleton.1 hx
              have hr := h.run a rfl
              exact ⟨hr.1, h.le, hr.2.1, hr.2.2, hw⟩
        · have hi3 : i ≠ pos := fun e => by rw [e, hw] at hi2; cases hi2
          have hi4 : i < pos := by have : i < pos + 1 := hi; omega
          cases st with
          | none => exact h.all i hi4 hi2
          | some a =>
            by_cases h1 : i < a
            · obtain ⟨x, hx, h2⟩ := h.all i h1 hi2
              exact ⟨x, List.mem_append_left _ hx, h2⟩
            · exact ⟨_, List.mem_append_right _ (List.mem_singleton.2 rfl), by dsimp only; omega, hi4⟩
      · rw [runsB_yes hlt hq]
        have hw : wdb s.data.toList pos = true := by rw [wdb_get hlt]; exact hq
        refine runs_ok s f (pos + 1) _ _ (by omega) ⟨by omega, fun a ha => ?_, (fun h => by cases h), h.words, fun i hi hi2 => h.all i hi hi2⟩
        obtain rfl := Option.some.inj ha
        cases st with
        | none =>
          refine ⟨by show pos < _; omega, fun i h1 h2 => ?_, h.out rfl⟩
          have h3 : pos ≤ i := h1
          obtain rfl : i = pos := by omega
          exact hw
        | some b =>
          have hr := h.run b rfl
          refine ⟨by have := hr.1; show b < _; omega, fun i h1 h2 => ?_, hr.2.2⟩
          by_cases e : i = pos
          · rw [e]; exact hw
          · exact hr.2.1 i h1 (by omega)
    · obtain rfl : pos = s.size := by have := h.le; omega
      rw [runsB_end _ _ _ _ _ _ hlt]
      exact runs_close h
theorem runs_words (s : ByteArray) : AllWords s.data.toList (runs wordB s) :=
  runs_ok s s.size 0 none [] (by omega) ⟨Nat.zero_le _, (fun a h => by cases h), fun _ => .inl rfl, (fun x hx => by cases hx), fun i hi => by have : i < 0 := hi; omega⟩
/-- words that share a byte are one -/
theorem word_uniq {l : List UInt8} {x y : Nat × Nat} {i : Nat} (hx : IsWord l x) (hy : IsWord l y) (h1 : x.1 ≤ i) (h2 : i < x.2) (h3 : y.1 ≤ i) (h4 : i < y.2) : x = y := by
  obtain ⟨x1, x2⟩ := x
  obtain ⟨y1, y2⟩ := y
  obtain ⟨a1, a2, a3, a4, a5⟩ := hx
  obtain ⟨b1, b2, b3, b4, b5⟩ := hy
  dsimp only at *
  have e1 : x1 = y1 := by
    rcases Nat.lt_trichotomy x1 y1 with h | h | h
    · have := a3 (y1 - 1) (by omega) (by omega)
      rcases b4 with b4 | b4
      · omega
      · rw [this] at b4; cases b4
    · exact h
    · have := b3 (x1 - 1) (by omega) (by omega)
      rcases a4 with a4 | a4
      · omega
      · rw [this] at a4; cases a4
  have e2 : x2 = y2 := by
    rcases Nat.lt_trichotomy x2 y2 with h | h | h
    · have := b3 x2 (by omega) h
      rw [this] at a5; cases a5
    · exact h
    · have := a3 y2 (by omega) h
      rw [this] at b5; cases b5
  rw [e1, e2]
theorem mem_words {l : List UInt8} {R : List (Nat × Nat)} (h : AllWords l R) {y : Nat × Nat} (hy : IsWord l y) : y ∈ R := by
  obtain ⟨x, hx, h1, h2⟩ := h.2 y.1 (hy.2.2.1 y.1 (Nat.le_refl _) hy.1)
  rw [← word_uniq (h.1 x hx) hy h1 h2 (Nat.le_refl _) hy.1]
  exact hx
theorem words_iff (s x : ByteArray) : x ∈ words s ↔ ∃ y, IsWord s.data.toList y ∧ x = small (s.extract y.1 y.2) := by
  unfold words
  rw [List.mem_map]
  constructor
  · rintro ⟨y, hy, rfl⟩
    exact ⟨y, (runs_words s).1 y hy, rfl⟩
  · rintro ⟨y, hy, rfl⟩
    exact ⟨y, mem_words (runs_words s) hy, rfl⟩
theorem qwords_iff (s : ByteArray) (x : Int × Int × ByteArray) : x ∈ qwords s ↔ ∃ y, IsWord s.data.toList y ∧ x = (((y.1 : Nat) : Int), ((y.2 : Nat) : Int), small (s.extract y.1 y.2)) := by
  have hl : s.data.toList.length = s.size := by simp
  have hq : AllWords s.data.toList (qw s.data.toList (s.size + 1)).2 := by rw [← hl]; exact qw_words _
  unfold qwords
  rw [List.mem_map]
  simp only [wordAt, small_extract]
  constructor
  · rintro ⟨y, hy, rfl⟩
    exact ⟨y, hq.1 y hy, rfl⟩
  · rintro ⟨y, hy, rfl⟩
    exact ⟨y, mem_words hq hy, rfl⟩
/-- bytes p up to q, where no word is cut -/
theorem getD_slice (l : List UInt8) (p q i : Nat) : (((l.take q).drop p).getD i 0) = if p + i < q then l.getD (p + i) 0 else 0 := by
  rw [List.getD_eq_getElem?_getD, List.getElem?_drop, List.getElem?_take, List.getD_eq_getElem?_getD]
  split <;> rfl
theorem wdb_slice {l : List UInt8} {p q : Nat} (hq : q ≤ l.length) (i : Nat) (hi : p + i < q) : wdb ((l.take q).drop p) i = wdb l (p + i) := by
  unfold wdb
  rw [getD_slice, if_pos hi, decide_eq_true (p := i < ((l.take q).drop p).length) (by rw [List.length_drop, List.length_take]; omega), decide_eq_true (p := p + i < l.length) (by omega)]
theorem word_slice {l : List UInt8} {p q : Nat} (hpq : p < q) (hq : q ≤ l.length) (hp0 : PT.wd l p = false) (hq0 : PT.wd l q = false) (y : Nat × Nat) : IsWord ((l.take q).drop p) y → IsWord l (p + y.1, p + y.2) := by
  obtain ⟨a, b⟩ := y
  rintro ⟨h1, h2, h3, h4, h5⟩
  rw [List.length_drop, List.length_take] at h2
  dsimp only at *
  have wl : ∀ i, wdb l i = true → WM.wordB (l.getD i 0) = true := fun i h => by unfold wdb at h; simp only [Bool.and_eq_true] at h; exact h.2
  have hm : ∀ i, a ≤ i → i < b → wdb l (p + i) = true := fun i i1 i2 => by rw [← wdb_slice hq i (by omega)]; exact h3 i i1 i2
  refine ⟨by dsimp only; omega, by dsimp only; omega, fun i i1 i2 => ?_, ?_, ?_⟩
  · dsimp only at i1 i2
    have := hm (i - p) (by omega) (by omega)
    rwa [show p + (i - p) = i by omega] at this
  · dsimp only
    by_cases ha : a = 0
    · subst ha
      by_cases hp : p = 0
      · exact .inl (by omega)
      · right
        have hb := wl p (by have := hm 0 (Nat.le_refl _) h1; simpa using this)
        unfold PT.wd at hp0
        rw [decide_eq_true (show 0 < p by omega), decide_eq_true (show p < l.length by omega), hb] at hp0
        unfold wdb
        simp only [Bool.true_and, Bool.and_true] at hp0
        rw [show p + 0 - 1 = p - 1 by omega, hp0, Bool.and_false]
    · right
      rcases h4 with h4 | h4
      · exact absurd h4 ha
      · rw [wdb_slice hq (a - 1) (by omega)] at h4
        rwa [show p + a - 1 = p + (a - 1) by omega]
  · dsimp only
    by_cases hb : p + b < q
    · rw [wdb_slice hq b hb] at h5; exact h5
    · obtain rfl : q = p + b := by omega
      have hbb := wl (p + b - 1) (by have := hm (b - 1) (by omega) (by omega); rwa [show p + (b - 1) = p + b - 1 by omega] at this)
      unfold PT.wd at hq0
      rw [decide_eq_true (show 0 < p + b by omega), hbb] at hq0
      unfold wdb
      simpa using hq0
theorem slice_word {l : List UInt8} {p q : Nat} (hq : q ≤ l.length) (y : Nat × Nat) (h : IsWord l y) (hp1 : p ≤ y.1) (hq1 : y.2 ≤ q) : IsWord ((l.take q).drop p) (y.1 - p, y.2 - p) := by
  obtain ⟨a, b⟩ := y
  obtain ⟨h1, h2, h3, h4, h5⟩ := h
  dsimp only at *
  refine ⟨by dsimp only; omega, by rw [List.length_drop, List.length_take]; dsimp only; omega, fun i i1 i2 => ?_, ?_, ?_⟩
  · dsimp only at i1 i2
    rw [wdb_slice hq i (by omega)]
    exact h3 _ (by omega) (by omega)
  · dsimp only
    by_cases ha : a - p = 0
    · exact .inl ha
    · right
      rw [wdb_slice hq (a - p - 1) (by omega), show p + (a - p - 1) = a - 1 by omega]
      rcases h4 with h4 | h4
      · omega
      · exact h4
  · dsimp only
    by_cases hb : b < q
    · rw [wdb_slice hq (b - p) (by omega), show p + (b - p) = b by omega]; exact h5
    · exact wdb_end (by rw [List.length_drop, List.length_take]; omega)
theorem extract_list (s : ByteArray) (p q : Nat) : (s.extract p q).data.toList = (s.data.toList.take q).drop p := by
  rw [ByteArray.data_extract]
  simp [Array.toList_extract, List.drop_take]
theorem extract_in (s : ByteArray) (p q a b : Nat) (hb : p + b ≤ q) : (s.extract p q).extract a b = s.extract (p + a) (p + b) := by
  apply ByteArray.ext
  apply Array.toList_inj.1
  rw [extract_list, extract_list, extract_list]
  rw [List.take_drop, List.take_take, List.drop_drop, show min (p + b) q = p + b by omega]
/-- the words of a part that cuts none -/
theorem words_part {s : ByteArray} {p q : Nat} (hpq : p < q) (hq : q ≤ s.size) (hp0 : PT.wd s.data.toList p = false) (hq0 : PT.wd s.data.toList q = false) (x : ByteArray) :
    x ∈ words (s.extract p q) ↔ ∃ y, IsWord s.data.toList y ∧ p ≤ y.1 ∧ y.2 ≤ q ∧ x = small (s.extract y.1 y.2) := by
  have hl : s.data.toList.length = s.size := by simp
  rw [words_iff, extract_list]
  constructor
  · rintro ⟨y, hy, rfl⟩
    have hy2 := hy.2.1
    rw [List.length_drop, List.length_take] at hy2
    exact ⟨_, word_slice hpq (by omega) hp0 hq0 y hy, by dsimp only; omega, by dsimp only; omega, by rw [extract_in s p q _ _ (by omega)]⟩
  · rintro ⟨y, hy, h1, h2, rfl⟩
    have := hy.1
    exact ⟨_, slice_word (by omega) y hy h1 h2, by rw [extract_in s p q _ _ (by dsimp only; omega)]; dsimp only; rw [show p + (y.1 - p) = y.1 by omega, show p + (y.2 - p) = y.2 by omega]⟩
/-- what covers no part of a word without the rest -/
def WA (l : List UInt8) (C : Int → Prop) : Prop := ∀ i : Nat, PT.wd l i = true → (C ((i : Int) - 1) ↔ C i)
theorem WA.or {l : List UInt8} {A B C : Int → Prop} (ha : WA l A) (hb : WA l B) (h : ∀ i, C i ↔ A i ∨ B i) : WA l C := fun i hi => by rw [h, h, ha i hi, hb i hi]
/-- both ends lie between words -/
def WEnds (l : List UInt8) (n : Nat) (L : List (Int × Int)) : Prop := ∀ x, x ∈ L → 0 ≤ x.1 ∧ x.1 < x.2 ∧ x.2 ≤ n ∧ PT.wd l x.1.toNat = false ∧ PT.wd l x.2.toNat = false
theorem WEnds.wa {l : List UInt8} {n : Nat} {L : List (Int × Int)} (h : WEnds l n L) : WA l (cov L) := fun i hi => by
  have key : ∀ x, x ∈ L → ((x.1 ≤ (i : Int) - 1 ∧ (i : Int) - 1 < x.2) ↔ (x.1 ≤ (i : Int) ∧ (i : Int) < x.2)) := fun x hx => by
    obtain ⟨h1, h2, h3, h4, h5⟩ := h x hx
    have n1 : x.1 ≠ i := fun e => by rw [e] at h4; simp only [Int.toNat_natCast] at h4; rw [hi] at h4; cases h4
    have n2 : x.2 ≠ i := fun e => by rw [e] at h5; simp only [Int.toNat_natCast] at h5; rw [hi] at h5; cases h5
    omega
  constructor
  · rintro ⟨x, hx, h⟩; exact ⟨x, hx, (key x hx).1 h⟩
  · rintro ⟨x, hx, h⟩; exact ⟨x, hx, (key x hx).2 h⟩
/-- right spans that cover no part of a word without the rest end between words -/
theorem ends_of {l : List UInt8} {n : Nat} {L : List (Int × Int)} (h : sep L) (hin : ∀ x, x ∈ L → 0 ≤ x.1 ∧ x.2 ≤ n) (hw : WA l (cov L)) : WEnds l n L := fun x hx => by
  have hne := sep_ne h x hx
  obtain ⟨h0, hn⟩ := hin x hx
  obtain ⟨K, M, rfl⟩ := List.append_of_mem hx
  have hm := sep_mid h
  have inK : ∀ i, cov (K ++ x :: M) i → cov K i ∨ (x.1 ≤ i ∧ i < x.2) ∨ cov M i := fun i hi => by
    rcases (cov_append _ _ _).1 hi with hi | hi
    · exact .inl hi
    · exact .inr ((cov_cons _ _ _).1 hi)
  have outL : ¬ cov (K ++ x :: M) (x.1 - 1) := fun hc => by
    rcases inK _ hc with ⟨t, ht, h1, h2⟩ | h1 | ⟨t, ht, h1, h2⟩
    · have := hm.2.1 t ht; omega
    · omega
    · have := hm.2.2 t ht; omega
  have outR : ¬ cov (K ++ x :: M) x.2 := fun hc => by
    rcases inK _ hc with ⟨t, ht, h1, h2⟩ | h1 | ⟨t, ht, h1, h2⟩
    · have := hm.2.1 t ht; omega
    · omega
    · have := hm.2.2 t ht; omega
  refine ⟨h0, hne, hn, ?_, ?_⟩
  · cases hc : PT.wd l x.1.toNat
    · rfl
    · have := hw _ hc
      rw [Int.toNat_of_nonneg h0] at this
      exact absurd (this.2 (cov_mem hx (Int.le_refl _) hne)) outL
  · cases hc : PT.wd l x.2.toNat
    · rfl
    · have := hw _ hc
      rw [Int.toNat_of_nonneg (by omega)] at this
      exact absurd (this.1 (cov_mem hx (by omega) (by omega))) outR
/-- .. and are not made longer -/
theorem ends_st {l : List UInt8} {n : Nat} {L : List (Int × Int)} (h : WEnds l n L) : L.map (PT.st (PT.wl l)) = L := by
  conv => rhs; rw [← List.map_id L]
  apply List.map_congr_left
  intro x hx
  obtain ⟨h1, h2, h3, h4, h5⟩ := h x hx
  obtain ⟨p, q⟩ := x
  dsimp only at *
  simp only [PT.st, id]
  rw [PT.dn_stop (by rw [PT.cont_wl]; exact h4), PT.up_fix (by rw [PT.cont_wl]; exact h5), Int.toNat_of_nonneg h1, Int.toNat_of_nonneg (by omega)]
theorem wordB_high {b : UInt8} (h : 128 ≤ b.toNat) : wordB b = true := by unfold wordB; rw [decide_eq_true h, Bool.or_true]
theorem cont_wd {l : List UInt8} (hv : Go.Lib.validD l = true) {i : Nat} (h : PT.wd l i = false) : PT.cont (l.getD i 0) = false := by
  cases hc : PT.cont (l.getD i 0)
  · rfl
  · have hlt := PT.cont_lt hc
    have hL := PT.lead_high l.length l (Nat.le_refl _) hv
    cases i with
    | zero => rw [hL.2] at hc; cases hc
    | succ i =>
      have h1 := hL.1 i hlt hc
      have h2 : 128 ≤ (l.getD (i + 1) 0).toNat := by unfold PT.cont at hc; have := of_decide_eq_true hc; omega
      unfold PT.wd at h
      rw [decide_eq_true (show 0 < i + 1 by omega), decide_eq_true hlt, show i + 1 - 1 = i by omega, wordB_high h1, wordB_high h2] at h
      cases h
theorem ends_stc {l : List UInt8} (hv : Go.Lib.validD l = true) {n : Nat} {L : List (Int × Int)} (h : WEnds l n L) : L.map (PT.st l) = L := by
  conv => rhs; rw [← List.map_id L]
  apply List.map_congr_left
  intro x hx
  obtain ⟨h1, h2, h3, h4, h5⟩ := h x hx
  obtain ⟨p, q⟩ := x
  dsimp only at *
  simp only [PT.st, id]
  rw [PT.dn_stop (cont_wd hv h4), PT.up_fix (cont_wd hv h5), Int.toNat_of_nonneg h1, Int.toNat_of_nonneg (by omega)]
/-- spans made longer to whole words end between words -/
theorem st_ends {l : List UInt8} {L : List (Int × Int)} (hL : ∀ x, x ∈ L → 0 ≤ x.1 ∧ x.1 < x.2 ∧ x.2 ≤ l.length) : WEnds l l.length (L.map (PT.st (PT.wl l))) := fun x hx => by
  have hin := PT.st_in (l := PT.wl l) (L := L) (by rw [PT.wl_len]; exact hL) x hx
  rw [PT.wl_len] at hin
  obtain ⟨t, ht, rfl⟩ := List.mem_map.1 hx
  have h3 := hL t ht
  refine ⟨hin.1, hin.2.1, hin.2.2, ?_, ?_⟩
  · rw [← PT.cont_wl]
    simp only [PT.st, Int.toNat_natCast]
    rcases PT.dn_start (PT.wl l) t.1.toNat with h | h
    · rw [h]; exact PT.wl_zero l
    · exact h
  · rw [← PT.cont_wl]
    simp only [PT.st, Int.toNat_natCast]
    exact PT.up_stop (by rw [PT.wl_len]; omega)
theorem word_ends {l : List UInt8} {y : Nat × Nat} (h : IsWord l y) : PT.wd l y.1 = false ∧ PT.wd l y.2 = false := by
  obtain ⟨h1, h2, h3, h4, h5⟩ := h
  constructor
  · cases hc : PT.wd l y.1
    · rfl
    · unfold PT.wd at hc
      simp only [Bool.and_eq_true, decide_eq_true_eq] at hc
      rcases h4 with h4 | h4
      · omega
      · unfold wdb at h4
        rw [hc.1.2, decide_eq_true (by omega)] at h4
        cases h4
  · cases hc : PT.wd l y.2
    · rfl
    · unfold PT.wd at hc
      simp only [Bool.and_eq_true, decide_eq_true_eq] at hc
      unfold wdb at h5
      rw [hc.2, decide_eq_true hc.1.1.2] at h5
      cases h5
/-- all bytes of a word are covered if one is -/
theorem word_cov {l : List UInt8} {n : Nat} {L : List (Int × Int)} (h : WEnds l n L) {y : Nat × Nat} (hy : IsWord l y) {x : Int × Int} (hx : x ∈ L) {i : Nat} (h1 : y.1 ≤ i) (h2 : i < y.2) (h3 : x.1 ≤ i) (h4 : (i : Int) < x.2) : x.1 ≤ y.1 ∧ (y.2 : Int) ≤ x.2 := by
  obtain ⟨e1, e2, e3, e4, e5⟩ := h x hx
  obtain ⟨y1, y2⟩ := y
  have wdt : ∀ j, y1 < j → j < y2 → PT.wd l j = true := fun j j1 j2 => by
    have a := hy.2.2.1 j (by dsimp only; omega) j2
    have b := hy.2.2.1 (j - 1) (by dsimp only; omega) (by dsimp only; omega)
    unfold wdb at a b
    simp only [Bool.and_eq_true, decide_eq_true_eq] at a b
    unfold PT.wd
    rw [decide_eq_true (show 0 < j by omega), decide_eq_true a.1, a.2, b.2]
    rfl
  dsimp only at *
  constructor
  · rcases Int.lt_or_le (y1 : Int) x.1 with h5 | h5
    · rw [wdt x.1.toNat (by omega) (by omega)] at e4; cases e4
    · exact h5
  · rcases Int.lt_or_le x.2 (y2 : Int) with h5 | h5
    · rw [wdt x.2.toNat (by omega) (by omega)] at e5; cases e5
    · exact h5
/-- the words that spans hide: those of which a byte is covered -/
theorem hid_iff {s : ByteArray} {L : List (Int × Int)} (h : WEnds s.data.toList s.size L) (x : ByteArray) : x ∈ hid s L ↔ ∃ y, IsWord s.data.toList y ∧ cov L (y.1 : Nat) ∧ x = small (s.extract y.1 y.2) := by
  unfold hid
  rw [List.mem_flatMap]
  constructor
  · rintro ⟨t, ht, hx⟩
    obtain ⟨h1, h2, h3, h4, h5⟩ := h t ht
    rw [words_part (by omega) (by omega) h4 h5] at hx
    obtain ⟨y, hy, i1, i2, rfl⟩ := hx
    have := hy.1
    exact ⟨y, hy, cov_mem ht (by omega) (by omega), rfl⟩
  · rintro ⟨y, hy, ⟨t, ht, i1, i2⟩, rfl⟩
    obtain ⟨h1, h2, h3, h4, h5⟩ := h t ht
    have hc := word_cov h hy ht (Nat.le_refl _) hy.1 i1 i2
    exact ⟨t, ht, (words_part (by omega) (by omega) h4 h5 _).2 ⟨y, hy, by omega, by omega, rfl⟩⟩
end WM
namespace WM
theorem sep_sublist {K L : List (Int × Int)} (h : K.Sublist L) : sep L → sep K := by
  induction h with
  | slnil => exact id
  | cons a _ ih => exact fun h => ih h.2.2
  | cons_cons a hs ih => exact fun h => ⟨h.1, fun t ht => h.2.1 t (hs.subset ht), ih h.2.2⟩
def toI (x : Nat × Nat) : Int × Int := ((x.1 : Int), (x.2 : Int))
theorem qw_sep (l : List UInt8) : ∀ k, sep ((qw l k).2.map toI)
  | 0 => trivial
  | k + 1 => by
    have ih := qw_sep l k
    have ho := qw_ok l k
    cases hc : wdb l k
    · rw [qw_out (l := l) (k := k) hc]
      dsimp only
      split
      · rename_i hlt
        rw [List.map_append]
        refine sep_snoc ih (by simp only [toI]; omega) fun t ht => ?_
        obtain ⟨x, hx, rfl⟩ := List.mem_map.1 ht
        have := (ho.words x hx).2
        simp only [toI]; omega
      · exact ih
    · rw [qw_in (l := l) (k := k) (wdb_lt hc) (by unfold wdb at hc; simp only [Bool.and_eq_true] at hc; exact hc.2)]
      exact ih
end WM
namespace Go.Proofs.YtdmgfkgfcofmhaaDoor
open WM
theorem mem_leaks {s : ByteArray} {H : List ByteArray} {M : List (Int × Int)} {x : Int × Int} : x ∈ leaksL H M (qwords s) ↔ ∃ y, IsWord s.data.toList y ∧ 4 ≤ (y.2 : Int) - y.1 ∧ small (s.extract y.1 y.2) ∈ H ∧ (∀ t, t ∈ M → ¬ (t.1 < (y.2 : Int) ∧ (y.1 : Int) < t.2)) ∧ x = toI y := by
  unfold leaksL
  rw [List.mem_map]
  have hb : ∀ y : Nat × Nat, leakB H M ((y.1 : Int), (y.2 : Int), small (s.extract y.1 y.2)) = true ↔ (4 ≤ (y.2 : Int) - y.1 ∧ small (s.extract y.1 y.2) ∈ H ∧ ∀ t, t ∈ M → ¬ (t.1 < (y.2 : Int) ∧ (y.1 : Int) < t.2)) := fun y => by
    unfold leakB
    simp only [Bool.and_eq_true, decide_eq_true_eq, hasM_iff, Bool.not_eq_true', List.any_eq_false, inT]
  constructor
  · rintro ⟨z, hz, rfl⟩
    obtain ⟨h1, h2⟩ := List.mem_filter.1 hz
    obtain ⟨y, hy, rfl⟩ := (qwords_iff s z).1 h1
    have := (hb y).1 h2
    exact ⟨y, hy, this.1, this.2.1, this.2.2, rfl⟩
  · rintro ⟨y, hy, h1, h2, h3, rfl⟩
    exact ⟨_, List.mem_filter.2 ⟨(qwords_iff s _).2 ⟨y, hy, rfl⟩, (hb y).2 ⟨h1, h2, h3⟩⟩, rfl⟩
theorem leaks_sep (s : ByteArray) (H : List ByteArray) (M : List (Int × Int)) : sep (leaksL H M (qwords s)) := by
  have e : leaksL H M (qwords s) = ((qw s.data.toList (s.size + 1)).2.filter ((leakB H M) ∘ wordAt (small s))).map toI := by
    unfold leaksL qwords
    rw [List.filter_map, List.map_map]
    rfl
  rw [e]
  exact sep_sublist (List.filter_sublist.map _) (qw_sep _ _)
theorem leaks_ends (s : ByteArray) (H : List ByteArray) (M : List (Int × Int)) : WEnds s.data.toList s.size (leaksL H M (qwords s)) := fun x hx => by
  have hl : s.data.toList.length = s.size := by simp
  obtain ⟨y, hy, -, -, -, rfl⟩ := mem_leaks.1 hx
  have h1 := hy.1
  have h2 := hy.2.1
  have h3 := word_ends hy
  simp only [toI, Int.toNat_natCast]
  exact ⟨by omega, by omega, by omega, h3.1, h3.2⟩
/-- with the leaks covered, too, nothing leaks -/
theorem leaks_end {s : ByteArray} {a u : List (Int × Int)} (ha : WEnds s.data.toList s.size a) (hu : WEnds s.data.toList s.size u) (hc : ∀ i, cov u i ↔ cov a i ∨ cov (leaksL (hid s a) a (qwords s)) i) : leaksL (hid s u) u (qwords s) = [] := by
  rw [List.eq_nil_iff_forall_not_mem]
  intro x hx
  obtain ⟨y, hy, h4, hw, hn, rfl⟩ := mem_leaks.1 hx
  have hwa : small (s.extract y.1 y.2) ∈ hid s a := by
    obtain ⟨z, hz, hzc, e⟩ := (hid_iff hu _).1 hw
    rw [e]
    rcases (hc _).1 hzc with h | ⟨t, ht, h1, h2⟩
    · exact (hid_iff ha _).2 ⟨z, hz, h, rfl⟩
    · obtain ⟨v, hv, -, hvw, -, rfl⟩ := mem_leaks.1 ht
      simp only [toI] at h1 h2
      obtain rfl := word_uniq hv hz (i := z.1) (by omega) (by omega) (Nat.le_refl _) hz.1
      exact hvw
  have hna : ∀ t, t ∈ a → ¬ (t.1 < (y.2 : Int) ∧ (y.1 : Int) < t.2) := fun t ht hh => by
    have h1 := (ha t ht).2.1
    have h0 := hy.1
    obtain ⟨t', ht', i1, i2⟩ := (hc (max t.1 y.1)).2 (.inl (cov_mem ht (by omega) (by omega)))
    exact hn t' ht' ⟨by omega, by omega⟩
  have hin : toI y ∈ leaksL (hid s a) a (qwords s) := mem_leaks.2 ⟨y, hy, h4, hwa, hna, rfl⟩
  have h0 := hy.1
  obtain ⟨t', ht', i1, i2⟩ := (hc (y.1 : Int)).2 (.inr (cov_mem hin (by simp only [toI]; omega) (by simp only [toI]; omega)))
  exact hn t' ht' ⟨by omega, by omega⟩
end Go.Proofs.YtdmgfkgfcofmhaaDoor
