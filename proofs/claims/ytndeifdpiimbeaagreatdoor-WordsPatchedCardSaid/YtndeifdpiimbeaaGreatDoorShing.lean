/- Contracts of near.shinglesOf, near.Shingles, and of the law's nears. -/
import Derived.Test.YtndeifdpiimbeaaGreatDoorSortS
import Derived.Test.YtndeifdpiimbeaaGreatDoorWords
import Derived.WalkLawsBesides
import Derived.WalkSpells
namespace WM
/-- k words from the i-th on -/
def win (W : List ByteArray) (k i : Nat) : ByteArray := joinB ((W.drop i).take k)
def wins (W : List ByteArray) (k : Nat) : List ByteArray := (List.range (W.length + 1 - k)).map (win W k)
/-- the shingles of words -/
def shing (W : List ByteArray) (k : Nat) : List ByteArray := if W = [] then [] else compS (sortS (wins W (min k W.length)))
theorem wt_mid (W : List ByteArray) (k i : Nat) : wt ((W.drop i).take k) ≤ wt W := by
  have h1 := wt_take (W.drop i) k
  have h2 := wt_append (W.take i) (W.drop i)
  rw [List.take_append_drop] at h2
  omega
end WM
namespace Go.Proofs.YtndeifdpiimbeaaGreatDoor
open Go.RowKit

theorem isRun_any (k : Int) (b : Bool) (hb : (decide (1 ≤ k) && decide (k ≤ 10)) = b) (w : World) : Calls Tryz.prog 46 #[.int .i64 k] w fun e w' => e = .returned (.bool b) ∧ w = w' := by
  by_cases h1 : 1 ≤ k
  · go_enter Tryz.func46, Tryz.ntmps46
    go_wp2_with fail
    go_ret
    exact ⟨by rw [← hb]; simp [h1], rfl⟩
  · go_enter Tryz.func46, Tryz.ntmps46
    go_wp2_with fail
    go_ret
    exact ⟨by rw [← hb]; simp; omega, rfl⟩

theorem OwnS.formC {w : World} {base : Nat} {v : Value} {l : List ByteArray} (h : OwnS w base v l) : ∃ (A : Option Addr) (cap : Nat), v = .slice A l.length cap ∧ l.length ≤ cap ∧ cap ≤ 9223372036854775807 ∧ (0 < l.length → ∃ g, A = some ⟨g, 0, none⟩ ∧ base ≤ g ∧ g < w.heap.size ∧ ∀ j s, l[j]? = some s → w.cell? ⟨g, j, none⟩ = some (.string s)) := by
  obtain ⟨A, cap, rfl, hf⟩ := h.form
  refine ⟨A, cap, rfl, ?_, ?_, hf⟩
  · rcases h.2 with ⟨h1, h2⟩ | ⟨g, cap', cur, h1, hg, hh, hn, hc, r⟩
    · omega
    · injection h1 with h1 h2 h3; omega
  · rcases h.2 with ⟨h1, h2⟩ | ⟨g, cap', cur, h1, hg, hh, hn, hc, r⟩
    · injection h1 with h1 h2 h3; omega
    · injection h1 with h1 h2 h3; unfold maxLen at hc; omega
def ShRel (w1 : World) (W : List ByteArray) (k : Nat) (l e : Value) (wr : World) : Prop := ∃ j : Nat, e = .int .i64 ((j : Int) + (k : Int)) ∧ j + k ≤ W.length + 1 ∧ OwnS wr w1.heap.size l ((List.range j).map (WM.win W k)) ∧ Below w1.heap.size w1 wr
set_option maxHeartbeats 2000000 in
theorem shinglesOf_any (s : ByteArray) (hs : s.size ≤ 4294967296) (k : Nat) (hk1 : 1 ≤ k) (hk2 : k ≤ 1000000) (hwt : WM.wt (WM.words s) ≤ 1000000000) (w : World) :
    Calls Tryz.prog 47 #[.string s, .int .i64 k] w (RowNew (WM.shing (WM.words s) k) w) := by
  have hW := fun W => Words_any s hs W
  have hlen := WM.wt_len (WM.words s)
  generalize WM.words s = W at *
  have HW := Lib.hid hwt
  clear hwt hs
  go_enter Tryz.func47, Tryz.ntmps47
  go_wp2_with fail
  refine (hW _).mono ?_
  rintro e w1 ⟨v, rfl, hown, hb1⟩
  clear hW
  obtain ⟨A, cap, rfl, hcap, hcap2, hf⟩ := hown.formC
  by_cases h0 : W = []
  · subst h0
    have hz : (([] : List ByteArray).length : Int) = 0 := rfl
    rw [show ([] : List ByteArray).length = 0 from rfl] at *
    clear hf
    go_wp2_with fail
    go_ret
    exact ⟨_, rfl, OwnS.nil _ _, hb1⟩
  · have hpos : 0 < W.length := List.length_pos_iff.2 h0
    have hz : ((W.length : Int) == 0) = false := beq_eq_false_iff_ne.2 (by omega)
    obtain ⟨g, rfl, hg1, hg2, hcs⟩ := hf hpos
    have HS := Lib.hid (show WM.shing W k = WM.compS (WM.sortS (WM.wins W (min k W.length))) by unfold WM.shing; rw [if_neg h0])
    have hmin : min (k : Int) (W.length : Int) = ((min k W.length : Nat) : Int) := by omega
    have hm1 : 1 ≤ min k W.length := by omega
    have hm2 : min k W.length ≤ W.length := by omega
    clear hf h0 hk1 hk2
    generalize min k W.length = m at *
    go_wp2_with fail
    clear hmin
    go_loopw [6, 7] (fun l e wr => ShRel w1 W m l e wr) (fun _ e _ => (W.length + 1 - (intOf e).toNat))
    case atStart => exact ⟨0, by simp, by omega, OwnS.nil _ _, Below.refl _ _⟩
    case round =>
      obtain ⟨j, rfl, hj, hown2, hbw⟩ := hrel
      have hsz := hbw.size
      have hll := HW.out
      have e1 : ((j : Int) + (m : Int)).toNat = j + m := by omega
      have e2 : ((j : Int) + (m : Int)) - (m : Int) = (j : Int) := by omega
      by_cases hlt : j + m ≤ W.length
      · have hwn := WM.wt_mid W m j
        have hwl : ((W.drop j).take m).length = m := by simp; omega
        have hcw : ∀ (q : Nat) x, ((W.drop j).take m)[q]? = some x → wr.cell? ⟨g, j + q, none⟩ = some (.string x) := fun q x hx => by
          have hq : q < m := by have := (List.getElem?_eq_some_iff.1 hx).1; omega
          rw [List.getElem?_take_of_lt hq, List.getElem?_drop] at hx
          exact (hbw.cell (p := ⟨g, j + q, none⟩) hg2).trans (hcs _ x hx)
        have HJ := fun c (hc : ((W.drop j).take m).length ≤ c) => JoinS_any g j c ((W.drop j).take m) wr hcw (by omega) (by omega) hc
        rw [hwl] at HJ
        have HV := Lib.hid (show WM.joinB ((W.drop j).take m) = WM.win W m j from rfl)
        rw [HV.out] at HJ
        have HO := Lib.hid (And.intro hown2 hbw)
        have HL := Lib.hid (show ((List.range j).map (WM.win W m)).length + 1 ≤ 4000000000000 by simp; omega)
        have HR := Lib.hid (show (List.range (j + 1)).map (WM.win W m) = (List.range j).map (WM.win W m) ++ [WM.win W m j] by rw [List.range_succ, List.map_append]; rfl)
        clear hwn hwl hcw hown2 hbw HV hcs hown
        go_wp2_with fail
        refine (HJ _ ?_).mono ?_
        · omega
        rintro e w2 ⟨rfl, hb2⟩
        clear HJ
        have hb2s := hb2.size
        have HO2 := Lib.hid (And.intro (HO.out.1.below hb2 (Nat.le_refl _)) (HO.out.2.trans (hb2.mono hsz)))
        clear HO hb2
        go_wp2_with (at_builtin; refine app_strs _ rfl (.tmp 24) (.tmp 32) rfl w1.heap.size _ _ rfl (HO2.out.1.alloc _) _ 1 [WM.win W m j] rfl ?_ rfl (lits_cells _ [WM.win W m j] _) ?d1 ?d2; intro v3 w3 hown3 hg3)
        case d1 => exact HL.out
        case d2 => simp; omega
        go_wp2_with fail
        exact ⟨⟨j + 1, by congr 1; omega, by omega, by rw [HR.out]; exact hown3, (HO2.out.2.alloc (by omega) _).grown hg3 (by simp; omega) (fun q hq => HO2.out.1.base_le q hq)⟩, by simp [intOf]; omega⟩
      · obtain rfl : j = W.length + 1 - m := by omega
        have HO := Lib.hid (And.intro hown2 hbw)
        have hwl : ((List.range (W.length + 1 - m)).map (WM.win W m)).length = W.length + 1 - m := by simp
        have HW2 := Lib.hid (show (List.range (W.length + 1 - m)).map (WM.win W m) = WM.wins W m from rfl)
        have HS1 := SortS_any hown2 (by rw [hwl]; omega) (by rw [hwl]; omega)
        clear hwl hown2 hbw hcs hown
        rw [HW2.out] at HS1
        go_wp2_with fail
        refine HS1.mono ?_
        rintro e w2 ⟨rfl, hown3, hg3⟩
        clear HS1
        have HS2 := CompS_any hown3 (by rw [WM.sortS_len]; simp [WM.wins]; omega)
        have HO3 := Lib.hid (And.intro hown3 hg3)
        clear hown3 hg3
        go_wp2_with fail
        refine HS2.mono ?_
        rintro e w3 ⟨v4, rfl, hown4, hg4, _⟩
        go_wp2_with fail
        go_ret
        have hB2 : Below w1.heap.size w1 w2 := HO.out.2.grown HO3.out.2 hsz (fun q hq => HO.out.1.base_le q hq)
        have hB3 : Below w1.heap.size w1 w3 := hB2.grown hg4 hB2.size (fun q hq => HO.out.1.base_le q hq)
        exact ⟨v4, rfl, by rw [HS.out]; exact hown4.less hb1.size, hb1.trans (hB3.mono hb1.size)⟩

/-- Shingles answers a row and a code -/
def ShSays (l : List ByteArray) (c : Int) (w : World) (e : Ending) (w' : World) : Prop := ∃ v, e = .returned (.tuple #[v, .int .i64 c]) ∧ OwnS w' w.heap.size v l ∧ Below w.heap.size w w'
set_option maxHeartbeats 1000000 in
theorem Shingles_ok (s : ByteArray) (hs : s.size ≤ 20000) (k : Nat) (hk1 : 1 ≤ k) (hk2 : k ≤ 10) (hwt : WM.wt (WM.words s) ≤ 1000000000) (w : World) :
    Calls Tryz.prog 26 #[.string s, .int .i64 k] w (ShSays (WM.shing (WM.words s) k) 0 w) := by
  have hS := shinglesOf_any s (by omega) k hk1 (by omega) hwt w
  have hR := isRun_any k true (by simp; omega) w
  clear hk1 hk2 hwt
  go_enter Tryz.func26, Tryz.ntmps26
  go_wp2_with fail
  refine hR.mono ?_
  rintro e w1 ⟨rfl, rfl⟩
  go_wp2_with fail
  refine hS.mono ?_
  rintro e w2 ⟨v, rfl, hown, hb⟩
  go_wp2_with fail
  go_ret2
  exact ⟨v, rfl, hown, hb⟩

theorem abc_words : WM.words ⟨#[97, 32, 98, 32, 99]⟩ = [⟨#[97]⟩, ⟨#[98]⟩, ⟨#[99]⟩] := by decide +kernel
theorem abc_wins : WM.wins [⟨#[97]⟩, ⟨#[98]⟩, ⟨#[99]⟩] 2 = [⟨#[97, 32, 98]⟩, ⟨#[98, 32, 99]⟩] := by decide +kernel
theorem abc_shing : WM.shing (WM.words ⟨#[97, 32, 98, 32, 99]⟩) 2 = [⟨#[97, 32, 98]⟩, ⟨#[98, 32, 99]⟩] := by
  rw [abc_words]
  unfold WM.shing
  rw [if_neg (by simp), show min 2 ([⟨#[97]⟩, ⟨#[98]⟩, ⟨#[99]⟩] : List ByteArray).length = 2 from rfl, abc_wins]
  have h1 : WM.sortS [⟨#[97, 32, 98]⟩, ⟨#[98, 32, 99]⟩] = [⟨#[97, 32, 98]⟩, ⟨#[98, 32, 99]⟩] := by
    unfold WM.sortS
    rw [List.mergeSort_of_pairwise (by decide)]
    rfl
  rw [h1]
  unfold WM.compS
  rw [Lib.compact_all _ (by decide)]
  rfl
/-- true is answered; what lay, lies -/
def SaysT (w : World) (e : Ending) (w' : World) : Prop := e = .returned (.bool true) ∧ Below w.heap.size w w'
end Go.Proofs.YtndeifdpiimbeaaGreatDoor
