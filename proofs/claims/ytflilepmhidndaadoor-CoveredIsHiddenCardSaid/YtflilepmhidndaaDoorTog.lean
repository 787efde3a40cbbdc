/- Contract of privilege.together. -/
import Derived.Test.YtflilepmhidndaaDoorBits
namespace Go.Proofs.YtflilepmhidndaaDoor
open Go.RowKit

def TgSays (S : List (Int × Int)) (w : World) (e : Ending) (w' : World) : Prop := ∃ M, WM.Tog S M ∧ RowOwnI M w e w'
def TgRel (w : World) (S : List (Int × Int)) (v i : Value) (wr : World) : Prop := ∃ (k : Nat) (M : List (Int × Int)), i = .int .i64 k ∧ k ≤ S.length ∧ Hid (WM.Tog (S.take k) M) ∧ M.length ≤ k ∧ OwnI wr w.heap.size v M ∧ Below w.heap.size w wr
theorem list_end {α : Type} (L : List α) : L = [] ∨ ∃ K x, L = K ++ [x] := by
  rcases List.eq_nil_or_concat L with h | ⟨K, x, h⟩
  · exact .inl h
  · exact .inr ⟨K, x, by rw [h, List.concat_eq_append]⟩
set_option maxHeartbeats 8000000 in
set_option maxRecDepth 100000 in
theorem together_any {w : World} {b0 : Nat} {v : Value} {S : List (Int × Int)} (h : OwnI w b0 v S) (hs : ∀ s, s ∈ S → s.1 < s.2) (ho : ∀ (i j : Nat) (s t : Int × Int), S[i]? = some s → S[j]? = some t → i < j → s.1 ≤ t.1) (hl : S.length ≤ 1000000) :
    Calls Tryd.prog 27 #[v] w (TgSays S w) := by
  obtain ⟨A0, cap0, rfl, hl0, hf0⟩ := h.form
  have HS := Lib.hid (And.intro hs ho)
  clear h hs ho
  go_enter Tryd.func27, Tryd.ntmps27
  go_wp2_with fail
  go_loopw [3, 9] (fun v i wr => TgRel w S v i wr) (fun _ i _ => S.length - (intOf i).toNat)
  case atStart => exact ⟨0, [], rfl, Nat.zero_le _, Lib.hid WM.Tog.start, Nat.le_refl _, OwnI.nil _ _, Below.refl _ _⟩
  case round =>
    obtain ⟨k, M, rfl, hk, HT, hMk, ho, hbw⟩ := hrel
    have hsz := hbw.size
    by_cases hlt : k < S.length
    · obtain ⟨g, rfl, hg1, hg2, hfz0, hcs⟩ := hf0 (by omega)
      have hx := List.getElem?_eq_getElem hlt
      have hpq := HS.out.1 _ (List.getElem_mem hlt)
      generalize S[k] = x at hx hpq
      obtain ⟨p, q⟩ := x
      obtain ⟨hc1, hc2⟩ := hcs k _ hx
      have hd1 := (hbw.cell (p := ⟨g, k * 2, none⟩) hg2).trans hc1
      have hd2 := (hbw.cell (p := ⟨g, k * 2 + 1, none⟩) hg2).trans hc2
      simp only at hd1 hd2
      dsimp only at hpq
      have HX := Lib.hid hx
      have HPQ := Lib.hid hpq
      have HTK := Lib.hid (take_atI hx)
      have HO := Lib.hid (And.intro ho hbw)
      have HM : Hid (M.length ≤ k ∧ M.length ≤ 1000000000000) := Lib.hid ⟨hMk, by omega⟩
      rcases list_end M with rfl | ⟨K, ⟨a, b⟩, rfl⟩
      · obtain ⟨A, cap, rfl, -, -⟩ := ho.form
        have HN : Hid (WM.Tog (S.take (k + 1)) ([] ++ [(p, q)])) := Lib.hid (by rw [HTK.out]; exact HT.out.new HPQ.out (fun t ht => by cases ht))
        clear hx hc1 hc2 hbw hcs hf0 hfz0 ho hpq hMk
        go_wp2_with fail
        go_quiet (fail)
        have HO2 := Lib.hid (And.intro ((HO.out.1.alloc (.cells #[.int .i64 p, .int .i64 q] 38)).drewN nq) (below_drewN (HO.out.2.alloc hsz (.cells #[.int .i64 p, .int .i64 q] 38)) nq))
        have HK2 := ((Blk.new wr 38 #[.int .i64 p, .int .i64 q]).drewN nq)
        have hsz2 : w.heap.size ≤ ((wr.alloc (.cells #[.int .i64 p, .int .i64 q] 38)).drewN nq).heap.size := HO2.out.2.size
        generalize ((wr.alloc (.cells #[.int .i64 p, .int .i64 q] 38)).drewN nq) = w2 at *
        have e0 := HK2.cell 0
        have e1 := HK2.cell 1
        simp at e0 e1
        clear HK2 hd1 hd2
        go_wp2_with (at_builtin; refine app_sp _ rfl (.tmp 40) (.tmp 42) rfl w.heap.size _ [] rfl (HO2.out.1.alloc _) _ p q rfl ?_ (lits_sp _ p q _) HM.out.2 ?d2; intro v4 w4 ho4 hg4; have HO4 := Lib.hid ho4; have HG4 := Lib.hid hg4; clear ho4 hg4)
        case d2 => simp; omega
        exact ⟨⟨k + 1, _, by simp, by omega, HN, by simp, HO4.out, below_grownI (HO2.out.2.alloc hsz2 _) (HO2.out.1.alloc _) HG4.out (by simp; omega)⟩, by simp [intOf]; omega⟩
      · obtain ⟨g', c', m', rfl, hg'1, hg'2, hl', hm1, hm2, hm3, hfz', hc3, hc4⟩ := ho.formS
        have hfzz := hfz' (K.length * 2 + 1)
        have hba := (((Below.refl wr.heap.size wr).alloc (Nat.le_refl _) (.cells #[.int .i64 p, .int .i64 q] 38)).cell (p := ⟨g', K.length * 2 + 1, none⟩) hg'2).trans hc4
        have hfa := (((Below.refl wr.heap.size wr).alloc (Nat.le_refl _) (.cells #[.int .i64 p, .int .i64 q] 38)).frozen (p := ⟨g', K.length * 2 + 1, none⟩) hg'2).trans hfzz
        have hi1 : 0 ≤ (m' : Int) - 1 := by omega
        have hi2 : (m' : Int) - 1 < (m' : Int) := by omega
        have hi3 : decide (0 ≤ (m' : Int) - 1) = true := decide_eq_true hi1
        have hi4 : decide (1 ≤ (m' : Int)) = true := decide_eq_true (by omega)
        have hW : IntKind.i64.wrap ((m' : Int) - 1) = (m' : Int) - 1 := IntWalk.i64_in _ ⟨by omega, by omega⟩
        have HMX : Hid ((if b < q then q else b) = max b q) := Lib.hid (by split <;> omega)
        by_cases hpb : p ≤ b
        · have HN : Hid (WM.Tog (S.take (k + 1)) (K ++ [(a, max b q)])) := Lib.hid (by
            rw [HTK.out]
            refine HT.out.join (s := (p, q)) hpb fun t ht => ?_
            obtain ⟨n, hn⟩ := List.getElem?_of_mem ht
            have hn2 : n < k := by have := (List.getElem?_eq_some_iff.1 hn).1; simp at this; omega
            rw [List.getElem?_take_of_lt hn2] at hn
            exact HS.out.2 n k t (p, q) hn HX.out hn2)
          clear hx hc1 hc2 hbw hcs hf0 hfz0 ho hpq hMk hfz' hc3 hc4 hfzz hm3
          go_wp2_with fail
          go_quiet (fail)
          have HO2 := Lib.hid (And.intro ((HO.out.1.alloc (.cells #[.int .i64 p, .int .i64 q] 38)).drewN nq) (below_drewN (HO.out.2.alloc hsz (.cells #[.int .i64 p, .int .i64 q] 38)) nq))
          have HK2 := ((Blk.new wr 38 #[.int .i64 p, .int .i64 q]).drewN nq)
          have hb2 : ((wr.alloc (.cells #[.int .i64 p, .int .i64 q] 38)).drewN nq).cell? ⟨g', K.length * 2 + 1, none⟩ = some (.int .i64 b) := hba
          have hf2 : ((wr.alloc (.cells #[.int .i64 p, .int .i64 q] 38)).drewN nq).frozen? ⟨g', K.length * 2 + 1, none⟩ = false := hfa
          generalize ((wr.alloc (.cells #[.int .i64 p, .int .i64 q] 38)).drewN nq) = w2 at *
          have e0 := HK2.cell 0
          have e1 := HK2.cell 1
          simp at e0 e1
          clear HK2 hd1 hd2 hba hfa
          go_wp2_with fail
          go_region
          go_wp2_with fail
          exact ⟨⟨k + 1, _, by simp, by omega, HN, by have := HM.out.1; simp at this ⊢; omega, (by first | exact OwnI.setS HO2.out.1 (max b q) | (rw [HMX.out]; exact OwnI.setS HO2.out.1 (max b q))), (below_setI HO2.out.2 (p := ⟨g', K.length * 2 + 1, none⟩) hg'1 _).drew⟩, by simp [intOf]; omega⟩
        · have HN : Hid (WM.Tog (S.take (k + 1)) ((K ++ [(a, b)]) ++ [(p, q)])) := Lib.hid (by
            rw [HTK.out]
            have hsl := WM.sep_last HT.out.sep
            refine HT.out.new HPQ.out fun t ht => ?_
            dsimp only at hsl ⊢
            rcases List.mem_append.1 ht with ht | ht
            · have := hsl.2 t ht; omega
            · rw [List.mem_singleton.1 ht]; dsimp only; omega)
          have hpb2 : decide (p ≤ b) = false := decide_eq_false hpb
          have HML : Hid ((K ++ [(a, b)] ++ [(p, q)]).length ≤ k + 1) := Lib.hid (by rw [List.length_append]; show _ + 1 ≤ _; omega)
          clear hx hc1 hc2 hbw hcs hf0 hfz0 ho hpq hMk hfz' hc3 hc4 hfzz hm3
          go_wp2_with fail
          go_quiet (fail)
          have HO2 := Lib.hid (And.intro ((HO.out.1.alloc (.cells #[.int .i64 p, .int .i64 q] 38)).drewN nq) (below_drewN (HO.out.2.alloc hsz (.cells #[.int .i64 p, .int .i64 q] 38)) nq))
          have HK2 := ((Blk.new wr 38 #[.int .i64 p, .int .i64 q]).drewN nq)
          have hsz2 : w.heap.size ≤ ((wr.alloc (.cells #[.int .i64 p, .int .i64 q] 38)).drewN nq).heap.size := HO2.out.2.size
          generalize ((wr.alloc (.cells #[.int .i64 p, .int .i64 q] 38)).drewN nq) = w2 at *
          have e0 := HK2.cell 0
          have e1 := HK2.cell 1
          simp at e0 e1
          clear HK2 hd1 hd2 hba hfa
          go_wp2_with (at_builtin; refine app_sp _ rfl (.tmp 40) (.tmp 42) rfl w.heap.size _ (K ++ [(a, b)]) rfl (HO2.out.1.alloc _) _ p q rfl ?_ (lits_sp _ p q _) HM.out.2 ?d2; intro v4 w4 ho4 hg4; have HO4 := Lib.hid ho4; have HG4 := Lib.hid hg4; clear ho4 hg4)
          case d2 => simp; omega
          exact ⟨⟨k + 1, _, by simp, by omega, HN, HML.out, HO4.out, below_grownI (HO2.out.2.alloc hsz2 _) (HO2.out.1.alloc _) HG4.out (by simp; omega)⟩, by simp [intOf]; omega⟩
    · obtain rfl : k = S.length := by omega
      have HO := Lib.hid (And.intro ho hbw)
      obtain ⟨A, cap, rfl, -, -⟩ := ho.form
      clear ho hbw hf0
      go_wp2_with fail
      go_ret
      exact ⟨M, by have := HT.out; rwa [List.take_length] at this, _, rfl, HO.out.1, HO.out.2⟩
/-- the spans with C, bounded -/
def MixSays (C : Int → Prop) (w : World) (e : Ending) (w' : World) : Prop := ∃ M, WM.sep M ∧ (∀ i, WM.cov M i ↔ C i) ∧ SpSays (WM.bList M) (WM.bCode M) w e w'
theorem cov_perm {L M : List (Int × Int)} (h : ∀ s, s ∈ M ↔ s ∈ L) (i : Int) : WM.cov M i ↔ WM.cov L i :=
  ⟨fun ⟨s, hs, h1⟩ => ⟨s, (h s).1 hs, h1⟩, fun ⟨s, hs, h1⟩ => ⟨s, (h s).2 hs, h1⟩⟩
end Go.Proofs.YtflilepmhidndaaDoor
