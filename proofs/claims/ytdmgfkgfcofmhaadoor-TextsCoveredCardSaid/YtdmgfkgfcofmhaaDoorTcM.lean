/- Code points as they are decoded; the words of a text by two ways: plain mathematics. -/
import Derived.Test.YtdmgfkgfcofmhaaDoorPlain
import Derived.Test.YtdmgfkgfcofmhaaDoorLkM
import Derived.Lib.TrimU
import Derived.Lib.DecodeN
namespace PT
/-- the first code point of valid bytes is as wide as it is decoded -/
theorem chunkD {l : List UInt8} (hv : Go.Lib.validD l = true) (hne : l ≠ []) : ∃ c r, l = c ++ r ∧ 0 < c.length ∧ cont (c.getD 0 0) = false ∧ (∀ i, 0 < i → i < c.length → cont (c.getD i 0) = true) ∧ Go.Lib.validD r = true ∧ (Go.Lib.decodeN l.length (l.getD 0 0).toNat (l.getD 1 0).toNat (l.getD 2 0).toNat (l.getD 3 0).toNat).2 = c.length := by
  by_cases h0 : (l.getD 0 0).toNat < 128
  · obtain ⟨b, t, rfl⟩ := List.exists_cons_of_ne_nil hne
    have hb : b.toNat < 128 := by simpa using h0
    refine ⟨[b], t, rfl, by simp, cont_small hb, fun i h1 h2 => by simp at h2; omega, by rw [Go.Lib.validD_cons b t hb] at hv; exact hv, ?_⟩
    unfold Go.Lib.decodeN
    rw [if_pos h0]
    rfl
  · have h0' : 128 ≤ (l.getD 0 0).toNat := by omega
    obtain ⟨c, r, h1, h2, h3, h4, h5, h6, h7⟩ := chunk hv hne
    refine ⟨c, r, h1, h2, h3, h4, h6, ?_⟩
    have hL := Go.Lib.validD_lead l hne h0'
    rw [hv] at hL
    split at hL
    · cases hL
    · rename_i k hk
      have hlt := (l.getD 0 0).toNat_lt
      obtain ⟨k1, k2, k3, k4, k5, k6, k7⟩ := checkN_some (acc_in ⟨(l.getD 0 0).toNat, hlt⟩ h0') hk
      have hle : 1 ≤ l.length := List.length_pos_iff.2 hne
      have hkl : c.length = k := by
        have hg : ∀ i, i < c.length → l.getD i 0 = c.getD i 0 := fun i hi => by rw [h1, List.getD_eq_getElem?_getD, List.getElem?_append_left hi, ← List.getD_eq_getElem?_getD]
        rcases Nat.lt_trichotomy c.length k with h8 | h8 | h8
        · -- the byte behind c goes on, though r begins a code point
          have hr : cont (r.getD 0 0) = false := by
            by_cases hr0 : r = []
            · rw [hr0]; rfl
            · exact (lead_high r.length r (Nat.le_refl _) h6).2
          have e : r.getD 0 0 = l.getD c.length 0 := by
            rw [h1, List.getD_eq_getElem?_getD, List.getD_eq_getElem?_getD, List.getElem?_append_right (Nat.le_refl _), Nat.sub_self]
          rw [e] at hr
          have h9 : cont (l.getD c.length 0) = true := by
            refine decide_eq_true ?_
            rcases (show c.length = 1 ∨ c.length = 2 ∨ c.length = 3 by omega) with e1 | e1 | e1 <;> rw [e1]
            · omega
            · have := k5 (by omega); omega
            · have := k6 (by omega); omega
          rw [h9] at hr; cases hr
        · exact h8
        · -- c goes on where the rest is valid
          have hr : Go.Lib.validD (l.drop k) = true := hL.symm
          have h9 : cont ((l.drop k).getD 0 0) = false := by
            by_cases hr0 : l.drop k = []
            · rw [hr0]; rfl
            · exact (lead_high _ _ (Nat.le_refl _) hr).2
          have e : (l.drop k).getD 0 0 = l.getD k 0 := by
            rw [List.getD_eq_getElem?_getD, List.getD_eq_getElem?_getD, List.getElem?_drop, Nat.add_zero]
          rw [e, hg k h8, h4 k (by omega) h8] at h9
          cases h9
      rcases Go.Lib.check_decode l.length (l.getD 0 0).toNat (l.getD 1 0).toNat (l.getD 2 0).toNat (l.getD 3 0).toNat hle h0' hlt (l.getD 1 0).toNat_lt (l.getD 2 0).toNat_lt (l.getD 3 0).toNat_lt with ⟨e1, _⟩ | ⟨k', hk', e1, e2⟩
      · rw [hk] at e1; cases e1
      · rw [hk] at e1
        injection e1 with e1
        rw [e2, hkl, e1]
end PT
namespace WM
/-- the runs and how far they go, by the other way -/
theorem runsB_qw (s : ByteArray) : ∀ (f pos : Nat) (st : Option Nat) (acc : List (Nat × Nat)), s.size ≤ pos + f → pos ≤ s.size → qw s.data.toList pos = (st.getD pos, acc) → (∀ a, st = some a → a < pos) → Go.Lib.closeSpans s (runsB wordB s f pos st acc) = (qw s.data.toList (s.size + 1)).2 := by
  have hl : s.data.toList.length = s.size := by simp
  have hend : ∀ (st : Option Nat) (acc : List (Nat × Nat)), qw s.data.toList s.size = (st.getD s.size, acc) → (∀ a, st = some a → a < s.size) → Go.Lib.closeSpans s (acc, st) = (qw s.data.toList (s.size + 1)).2 := fun st acc hq hs => by
    rw [qw_out (by have := wdb_end (l := s.data.toList) (i := s.size) (by omega); exact this), hq]
    cases st with
    | none => simp [Go.Lib.closeSpans]
    | some a => have := hs a rfl; simp [Go.Lib.closeSpans, this]
  intro f
  induction f with
  | zero =>
    intro pos st acc hf hp hq hs
    obtain rfl : pos = s.size := by omega
    exact hend st acc hq hs
  | succ f ih =>
    intro pos st acc hf hp hq hs
    by_cases hlt : pos < s.size
    · cases hw : wordB (s.get! pos)
      · rw [runsB_no hlt hw]
        refine ih (pos + 1) none _ (by omega) (by omega) ?_ (fun a h => by cases h)
        rw [qw_out (show wdb s.data.toList pos = false by rw [wdb_get hlt]; exact hw), hq]
        cases st with
        | none => simp [nxt]
        | some a => have := hs a rfl; simp [nxt, this]
      · rw [runsB_yes hlt hw]
        refine ih (pos + 1) _ _ (by omega) (by omega) ?_ (fun a h => ?_)
        · rw [qw_in (by omega) (by rw [list_get s pos hlt]; exact hw), hq]
          rfl
        · injection h with h
          cases st with
          | none => simp at h; omega
          | some b => have := hs b rfl; simp at h; omega
    · obtain rfl : pos = s.size := by omega
      rw [runsB_end _ _ _ _ _ _ hlt]
      exact hend st acc hq hs
theorem runs_qw (s : ByteArray) : runs wordB s = (qw s.data.toList (s.size + 1)).2 := by
  unfold runs
  exact runsB_qw s s.size 0 none [] (by omega) (Nat.zero_le _) rfl (fun a h => by cases h)
end WM
