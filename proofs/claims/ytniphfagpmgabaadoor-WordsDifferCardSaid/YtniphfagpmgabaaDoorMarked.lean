/- Contracts of Marked and the reference's MarkedOf. -/
import Derived.Test.YtniphfagpmgabaaDoorRepl
import Derived.Test.YtniphfagpmgabaaDoorRefDiff
namespace WM
theorem wt_drop (a : List ByteArray) (k : Nat) : wt (a.drop k) ≤ wt a := by
  have := wt_append (a.take k) (a.drop k)
  rw [List.take_append_drop] at this
  omega
theorem chg_wt (A B : List ByteArray) (l : List (Nat × Nat)) : ∀ n c, c ∈ chgK A B l n → wt c.drop ≤ wt A ∧ wt c.add ≤ wt B
  | 0, c, h => by simp [chgK] at h
  | n + 1, c, h => by
    simp only [chgK, List.mem_append] at h
    rcases h with h | h
    · exact chg_wt A B l n c h
    · split at h
      · simp at h
        subst h
        exact ⟨Nat.le_trans (wt_take _ _) (wt_drop _ _), Nat.le_trans (wt_take _ _) (wt_drop _ _)⟩
      · simp at h
end WM
namespace Go.Proofs.YtniphfagpmgabaaDoor
open Go.RowKit

/-- what is written of two strings -/
noncomputable def marks (X Y : List ByteArray) : List ByteArray := WM.rep bra X (WM.differ X Y)
theorem few_wt {s : ByteArray} (h : Few s) : WM.wt (WM.toks s) ≤ 60003 := by
  have h1 := WM.toks_wt s
  have h2 := h.1
  omega
theorem differ_len (X Y : List ByteArray) (hx : X.length ≤ 2000) : (WM.differ X Y).length ≤ 2001 := by
  have h1 := WM.chg_len X Y (WM.ends X Y) (WM.ends X Y).length
  have h2 := WM.ends_len X Y
  unfold WM.differ
  omega
theorem differ_join {X Y : List ByteArray} (hx : WM.wt X ≤ 60003) (hy : WM.wt Y ≤ 60003) : ∀ c, c ∈ WM.differ X Y → (WM.joinT c.drop).length ≤ 1000000 ∧ (WM.joinT c.add).length ≤ 1000000 := fun c hc => by
  have h := WM.chg_wt X Y _ _ c hc
  have h1 := WM.joinT_wt c.drop
  have h2 := WM.joinT_wt c.add
  omega
theorem marks_wt {X Y : List ByteArray} (hx : WM.wt X ≤ 60003) (hy : WM.wt Y ≤ 60003) (hl : X.length ≤ 2000) (n : Nat) (hn : n ≤ (WM.differ X Y).length) : WM.wt (WM.repK bra X (WM.differ X Y) n) ≤ 400000000 := by
  have h := WM.rep_wt bra X (WM.differ X Y) 120016 (fun c hc => by
    have h1 := WM.chg_wt X Y _ _ c hc
    have h2 := bra_wt c
    omega) n
  have h3 := differ_len X Y hl
  have h4 : n * (WM.wt X + 120016) ≤ 2001 * 180019 := Nat.mul_le_mul (by omega) (by omega)
  omega
theorem marks_row {X Y : List ByteArray} (hx : WM.wt X ≤ 60003) (hy : WM.wt Y ≤ 60003) (hl : X.length ≤ 2000) : ∀ n, n ≤ (WM.differ X Y).length → (WM.repK bra X (WM.differ X Y) n).length ≤ 1000000000 := fun n hn => by
  have h1 := marks_wt hx hy hl n hn
  have h2 := WM.wt_len (WM.repK bra X (WM.differ X Y) n)
  omega
theorem marks_join {X Y : List ByteArray} (hx : WM.wt X ≤ 60003) (hy : WM.wt Y ≤ 60003) (hl : X.length ≤ 2000) : (WM.joinT (marks X Y)).length ≤ 1000000000000 := by
  have h1 := WM.joinT_wt (marks X Y)
  have h2 := marks_wt hx hy hl _ (Nat.le_refl _)
  have h3 := WM.wt_drop X (WM.aft (WM.differ X Y) (WM.differ X Y).length)
  unfold marks WM.rep at h1 ⊢
  rw [WM.wt_append] at h1
  omega
set_option maxHeartbeats 2000000 in
theorem Marked_any (a b : ByteArray) (ha : Few a) (hb : Few b) (w : World) (hm : Mx w) : Calls Tryd.prog 9 #[.string a, .string b] w fun e w' => e = .returned (.tuple #[.string ⟨(WM.joinT (marks (WM.toks a) (WM.toks b))).toArray⟩, .int .i64 0]) ∧ Below w.heap.size w w' := by
  have h1 := Differ_any a b ha hb w hm
  have h2 := fun W (hW : Mx W) => Tokens_any a (by have := ha.1; omega) W hW
  have wa := few_wt ha
  have wb := few_wt hb
  have hfol := WM.differ_fol (WM.toks a) (WM.toks b)
  have HM := Lib.hid hm
  have la := ha.2
  generalize WM.toks a = X at *
  generalize WM.toks b = Y at *
  have HK := Lib.hid (And.intro (marks_row wa wb la) (And.intro (marks_join wa wb la) (And.intro (differ_join wa wb) (And.intro hfol (And.intro la (differ_len X Y la))))))
  clear hm wa wb hfol la ha hb
  go_enter Tryd.func9, Tryd.ntmps9
  go_wp2_with fail
  refine h1.mono ?_
  rintro e w1 ⟨v1, rfl, ho1, hb1⟩
  obtain ⟨AD, cD, rfl, _⟩ := ho1.rd
  have hT := h2 w1 (HM.out.below hb1 HM.out.2)
  have H1 := Lib.hid (And.intro ho1 hb1)
  clear h1 h2 ho1 hb1
  go_wp2_with fail
  refine hT.mono ?_
  rintro e w2 ⟨v2, rfl, ho2, hb2⟩
  obtain ⟨A, cT, rfl, hrd⟩ := ho2.rd
  have hR := replace_any X A cT (WM.differ X Y) _ w.heap.size w2 hrd ho2.cap_le ho2.cap0 HK.out.2.2.2.2.1 (H1.out.1.below hb2) HK.out.2.2.2.1 (Nat.le_trans HK.out.2.2.2.2.2 (by omega)) HK.out.2.2.1 HK.out.1
  have H2 := Lib.hid (H1.out.2.trans (hb2.mono H1.out.2.size))
  clear hT ho2 hb2 hrd
  go_wp2_with fail
  refine hR.mono ?_
  rintro e w3 ⟨v3, rfl, ho3, hb3⟩
  have hJ := Join_any (marks X Y) _ _ w3 ho3 HK.out.2.1
  have H3 := Lib.hid (H2.out.trans (hb3.mono H2.out.size))
  clear hR ho3 hb3
  go_wp2_with fail
  refine hJ.mono ?_
  rintro e w4 ⟨rfl, hb4⟩
  have H4 := Lib.hid (H3.out.trans (hb4.mono H3.out.size))
  clear hJ hb4
  go_wp2_with fail
  exact bodyPost_ret (v := .tuple #[.string ⟨(WM.joinT (marks X Y)).toArray⟩, .int .i64 0]) (by simp [results, Tryd.results9, go_sem]) rfl ⟨rfl, H4.out⟩
end Go.Proofs.YtniphfagpmgabaaDoor
