/- Contracts of the reference's ShinglesOf and ShinglesFault. -/
import Derived.Test.YtplocijdbadcjaaGreatDoorRefSort
import Derived.Test.YtplocijdbadcjaaGreatDoorWordsOf
import Derived.Test.YtplocijdbadcjaaGreatDoorShs
namespace Go.Proofs.YtplocijdbadcjaaGreatDoor
open Go.RowKit

def SoRel (w1 : World) (W : List ByteArray) (k : Nat) (l e : Value) (wr : World) : Prop := ∃ j : Nat, e = .int .i64 j ∧ j + k ≤ W.length + 1 ∧ OwnS wr w1.heap.size l ((List.range j).map (WM.win W k)) ∧ Below w1.heap.size w1 wr
set_option maxHeartbeats 2000000 in
theorem ShinglesOf_any (s : ByteArray) (hs : s.size ≤ 1000000000) (k : Nat) (hk1 : 1 ≤ k) (hk2 : k ≤ 1000000) (hwt : WM.wt (WM.words s) ≤ 1000000000) (w : World) :
    Calls Tryz.prog 21 #[.string s, .int .i64 k] w (RowNew (WM.shing (WM.words s) k) w) := by
  have hW := fun W => WordsOf_any s hs W
  have hlen := WM.wt_len (WM.words s)
  generalize WM.words s = W at *
  have HW := Lib.hid hwt
  clear hwt hs
  go_enter Tryz.func21, Tryz.ntmps21
  go_wp2_with fail
  refine (hW _).mono ?_
  rintro e w1 ⟨v, rfl, hown, hb1⟩
  clear hW
  obtain ⟨A, cap, rfl, hcap, hcap2, hf⟩ := hown.formC
  by_cases h0 : W = []
  · subst h0
    have hz : (([] : List ByteArray).length : Int) = 0 := rfl
    rw [show ([] : List ByteArray).length = 0 from rfl] at *
    clear hf
    go_wp2_with fail
    go_ret
    exact ⟨_, rfl, OwnS.nil _ _, hb1⟩
  · have hpos : 0 < W.length := List.length_pos_iff.2 h0
    have hz : ((W.length : Int) == 0) = false := beq_eq_false_iff_ne.2 (by omega)
    obtain ⟨g, rfl, hg1, hg2, hcs⟩ := hf hpos
    have HS := Lib.hid (show WM.shing W k = WM.compS (WM.sortS (WM.wins W (min k W.length))) by unfold WM.shing; rw [if_neg h0])
    have hmin : min (k : Int) (W.length : Int) = ((min k W.length : Nat) : Int) := by omega
    have hm1 : 1 ≤ min k W.length := by omega
    have hm2 : min k W.length ≤ W.length := by omega
    clear hf h0 hk1 hk2
    generalize min k W.length = m at *
    go_wp2_with fail
    clear hmin
    go_loopw [6, 22] (fun l e wr => SoRel w1 W m l e wr) (fun _ e _ => (W.length + 1 - (intOf e).toNat))
    case atStart => exact ⟨0, rfl, by omega, OwnS.nil _ _, Below.refl _ _⟩
    case round =>
      obtain ⟨j, rfl, hj, hown2, hbw⟩ := hrel
      have hsz := hbw.size
      have hll := HW.out
      have e1 : ((j : Int) + (m : Int)).toNat = j + m := by omega
      by_cases hlt : j + m ≤ W.length
      · have hlt2 : (j : Int) < (W.length : Int) - (m : Int) + 1 := by omega
        have hwn := WM.wt_mid W m j
        have hwl : ((W.drop j).take m).length = m := by simp; omega
        have hcw : ∀ (q : Nat) x, ((W.drop j).take m)[q]? = some x → wr.cell? ⟨g, j + q, none⟩ = some (.string x) := fun q x hx => by
          have hq : q < m := by have := (List.getElem?_eq_some_iff.1 hx).1; omega
          rw [List.getElem?_take_of_lt hq, List.getElem?_drop] at hx
          exact (hbw.cell (p := ⟨g, j + q, none⟩) hg2).trans (hcs _ x hx)
        have HJ := fun c (hc : ((W.drop j).take m).length ≤ c) => JoinS_any g j c ((W.drop j).take m) wr hcw (by omega) (by omega) hc
        rw [hwl] at HJ
        have HV := Lib.hid (show WM.joinB ((W.drop j).take m) = WM.win W m j from rfl)
        rw [HV.out] at HJ
        have HO := Lib.hid (And.intro hown2 hbw)
        have HL := Lib.hid (show ((List.range j).map (WM.win W m)).length + 1 ≤ 4000000000000 by simp; omega)
        have HR := Lib.hid (show (List.range (j + 1)).map (WM.win W m) = (List.range j).map (WM.win W m) ++ [WM.win W m j] by rw [List.range_succ, List.map_append]; rfl)
        clear hwn hwl hcw hown2 hbw HV hcs hown
        go_wp2_with fail
        refine (HJ _ ?_).mono ?_
        · omega
        rintro e w2 ⟨rfl, hb2⟩
        clear HJ
        have hb2s := hb2.size
        have HO2 := Lib.hid (And.intro (HO.out.1.below hb2 (Nat.le_refl _)) (HO.out.2.trans (hb2.mono hsz)))
        clear HO hb2
        go_wp2_with (at_builtin; refine app_strs _ rfl (.tmp 25) (.tmp 33) rfl w1.heap.size _ _ rfl (HO2.out.1.alloc _) _ 1 [WM.win W m j] rfl ?_ rfl (lits_cells _ [WM.win W m j] _) ?d1 ?d2; intro v3 w3 hown3 hg3)
        case d1 => exact HL.out
        case d2 => simp; omega
        go_wp2_with fail
        exact ⟨⟨j + 1, by simp, by omega, by rw [HR.out]; exact hown3, (HO2.out.2.alloc (by omega) _).grown hg3 (by simp; omega) (fun q hq => HO2.out.1.base_le q hq)⟩, by simp [intOf]; omega⟩
      · obtain rfl : j = W.length + 1 - m := by omega
        have HO := Lib.hid (And.intro hown2 hbw)
        have hwl : ((List.range (W.length + 1 - m)).map (WM.win W m)).length = W.length + 1 - m := by simp
        have HW2 := Lib.hid (show (List.range (W.length + 1 - m)).map (WM.win W m) = WM.wins W m from rfl)
        have hlt2 : ¬ ((W.length + 1 - m : Nat) : Int) < (W.length : Int) - (m : Int) + 1 := by omega
        rw [HW2.out] at hown2
        have hwn : (WM.wins W m).length = W.length + 1 - m := by rw [← HW2.out]; exact hwl
        have HS1 := sortedR_any hown2 (by rw [hwn]; omega)
        clear hwl hown2 hbw hcs hown hwn
        go_wp2_with fail
        refine HS1.mono ?_
        rintro e w2 ⟨v4, rfl, hown4, hb2⟩
        go_wp2_with fail
        go_ret
        exact ⟨v4, rfl, by rw [HS.out]; exact hown4.less (Nat.le_trans hb1.size hsz), hb1.trans ((HO.out.2.trans (hb2.mono hsz)).mono hb1.size)⟩
theorem ShinglesFault_any (s : ByteArray) (hs : s.size ≤ 20000) (k : Int) (b : Bool) (hb : (decide (1 ≤ k) && decide (k ≤ 10)) = b) (w : World) :
    Calls Tryz.prog 20 #[.string s, .int .i64 k] w fun e w' => e = .returned (.int .i64 (if b then 0 else 1)) ∧ w = w' := by
  by_cases h1 : k < 1
  · have : b = false := by rw [← hb]; simp; omega
    subst this
    have hd : decide (k < 1) = true := decide_eq_true h1
    clear hb h1
    go_enter Tryz.func20, Tryz.ntmps20
    go_wp2_with fail
    go_ret
    exact ⟨rfl, rfl⟩
  · have hd : decide (k < 1) = false := decide_eq_false h1
    by_cases h2 : 10 < k
    · have : b = false := by rw [← hb]; simp; omega
      subst this
      have hd2 : decide (10 < k) = true := decide_eq_true h2
      clear hb h1 h2
      go_enter Tryz.func20, Tryz.ntmps20
      go_wp2_with fail
      go_ret
      exact ⟨rfl, rfl⟩
    · have : b = true := by rw [← hb]; simp; omega
      subst this
      have hd2 : decide (10 < k) = false := decide_eq_false h2
      clear hb h1 h2
      go_enter Tryz.func20, Tryz.ntmps20
      go_wp2_with fail
      go_ret
      exact ⟨rfl, rfl⟩
end Go.Proofs.YtplocijdbadcjaaGreatDoor
