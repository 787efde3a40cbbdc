/- Contract of the reference's WordsOf. -/
import Derived.Test.YtdmgfkgfcofmhaaDoorSpans
namespace Go.Proofs.YtdmgfkgfcofmhaaDoor
open Go.RowKit

def wordAt (s : ByteArray) (x : Nat × Nat) : ByteArray := WM.small (s.extract x.1 x.2)
theorem wordsAt_eq (s : ByteArray) : WM.words s = (WM.runs WM.wordB s).map (wordAt s) := rfl
theorem take_snoc' {α : Type} {l : List α} {k : Nat} {x : α} (h : l[k]? = some x) : l.take (k + 1) = l.take k ++ [x] := by
  obtain ⟨hk, rfl⟩ := List.getElem?_eq_some_iff.1 h
  rw [List.take_succ_eq_append_getElem hk]
def WoRel (w1 : World) (s : ByteArray) (l i : Value) (wr : World) : Prop := ∃ k : Nat, i = .int .i64 k ∧ k ≤ (WM.runs WM.wordB s).length ∧ OwnS wr w1.heap.size l (((WM.runs WM.wordB s).take k).map (wordAt s)) ∧ Below w1.heap.size w1 wr
theorem runs_len (s : ByteArray) : ∀ (f pos : Nat) (st : Option Nat) (acc : List (Nat × Nat)), (WM.runsB WM.wordB s f pos st acc).1.length ≤ acc.length + f
  | 0, pos, st, acc => by simp [WM.runsB]
  | f + 1, pos, st, acc => by
    by_cases h : pos < s.size
    · cases hq : WM.wordB (s.get! pos)
      · rw [WM.runsB_no h hq]
        have := runs_len s f (pos + 1) none (WM.nxt acc st pos)
        have h2 : (WM.nxt acc st pos).length ≤ acc.length + 1 := by cases st <;> simp [WM.nxt]
        omega
      · rw [WM.runsB_yes h hq]
        have := runs_len s f (pos + 1) (some (st.getD pos)) acc
        omega
    · rw [WM.runsB_end _ _ _ _ _ _ h]; simp
theorem runs_le (s : ByteArray) : (WM.runs WM.wordB s).length ≤ s.size + 1 := by
  have := runs_len s s.size 0 none []
  unfold WM.runs Lib.closeSpans
  rcases h : WM.runsB WM.wordB s s.size 0 none [] with ⟨a, b⟩
  rw [h] at this
  cases b <;> simp at this ⊢ <;> omega
set_option maxHeartbeats 1000000 in
theorem WordsOf_any (s : ByteArray) (hs : s.size ≤ 1000000000) (w : World) : Calls Tryd.prog 36 #[.string s] w (RowNew (WM.words s) w) := by
  rw [wordsAt_eq]
  have hgood := WM.runs_good WM.wordB s
  have hle := runs_le s
  go_enter Tryd.func36, Tryd.ntmps36
  go_wp2_with fail
  refine (wordSpans_any s hs _).mono ?_
  rintro e w1 ⟨v, rfl, hP, hb1⟩
  obtain ⟨A, cap, rfl, hl0, hf⟩ := hP.form
  go_wp2_with fail
  go_loopw [3, 9] (fun l i wr => WoRel w1 s l i wr) (fun _ i _ => (WM.runs WM.wordB s).length - (intOf i).toNat)
  case atStart => exact ⟨0, rfl, by omega, OwnS.nil _ _, Below.refl _ _⟩
  case round =>
    obtain ⟨k, rfl, hk, hown, hbw⟩ := hrel
    have hsz := hbw.size
    by_cases hlt : k < (WM.runs WM.wordB s).length
    · obtain ⟨g, rfl, hg1, hg2, hcs⟩ := hf (by omega)
      have hx := List.getElem?_eq_getElem hlt
      have hm := hgood _ (List.getElem_mem hlt)
      generalize (WM.runs WM.wordB s)[k] = x at hx hm
      obtain ⟨p, q⟩ := x
      obtain ⟨hc1, hc2⟩ := hcs k _ hx
      have hd1 := (hbw.cell (p := ⟨g, k * 2, none⟩) hg2).trans hc1
      have hd2 := (hbw.cell (p := ⟨g, k * 2 + 1, none⟩) hg2).trans hc2
      obtain ⟨hm1, hm2⟩ := hm
      simp only at hm1 hm2 hd1 hd2
      have HT := Lib.hid (take_snoc' hx)
      have HH := Lib.hid (And.intro hown hbw)
      have hL := lower_any (s.extract p q) (by simp; omega)
      have HW := Lib.hid (show wordAt s (p, q) = WM.small (s.extract p q) from rfl)
      have HLen := Lib.hid (show (((WM.runs WM.wordB s).take k).map (wordAt s)).length + 1 ≤ 4000000000000 by simp; omega)
      clear hx hc1 hc2 hown hbw hcs hf hgood
      go_wp2_with fail
      refine (hL _).mono ?_
      rintro e w2 ⟨rfl, hb2⟩
      clear hL
      go_wp2_with (at_builtin; refine app_strs _ rfl (.tmp 13) (.tmp 21) rfl w1.heap.size _ _ rfl ((((HH.out.1.alloc _).below hb2 (Nat.le_refl _))).alloc _) _ 1 [WM.small (s.extract p q)] rfl ?_ rfl (lits_cells _ [WM.small (s.extract p q)] _) ?d1 ?d2; intro v2 w6 hown2 hg2)
      case d1 => exact HLen.out
      case d2 => have := hb2.size; simp at this ⊢; omega
      go_wp2_with fail
      exact ⟨⟨k + 1, by simp, by omega, by rw [HT.out, List.map_append]; exact hown2, (((HH.out.2.alloc hsz _).trans (hb2.mono (by simp; omega))).alloc (by have := hb2.size; simp at this; omega) _).grown hg2 (by have := hb2.size; simp at this ⊢; omega) (fun j hj => HH.out.1.base_le j hj)⟩, by simp [intOf]; omega⟩
    · obtain rfl : k = (WM.runs WM.wordB s).length := by omega
      go_wp2_with fail
      go_ret
      rw [List.take_of_length_le (Nat.le_refl _)] at hown
      exact ⟨_, rfl, hown.less hb1.size, hb1.trans (hbw.mono hb1.size)⟩
end Go.Proofs.YtdmgfkgfcofmhaaDoor
