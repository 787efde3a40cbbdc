/- Contract of Turn at any changes. -/
import Derived.Test.YtndeifdpiimbeaaGreatDoorPatchZ
import Derived.Test.YtndeifdpiimbeaaGreatDoorTurnR
namespace Go.Proofs.YtndeifdpiimbeaaGreatDoor
open Go.RowKit

theorem code0 {X : List ByteArray} {D : List WM.ZC} (h : codeP X D = 0) : WM.fault X D = 0 := by
  by_cases hf : WM.fault X D = 0
  · exact hf
  · rw [codeP_bad hf] at h; exact h
theorem OkZ.hat {D : List WM.ZC} (h : OkZ D) {X : List ByteArray} (hX : X.length ≤ 2000) (hf : WM.fault X D = 0) (n : Nat) (c : WM.Chg) (hc : (D.map WM.ZC.nat)[n]? = some c) : (0 ≤ (c.at_ : Int) + WM.more (D.map WM.ZC.nat) n ∧ (c.at_ : Int) + WM.more (D.map WM.ZC.nat) n ≤ 1000000000) ∧ (-1000000000 ≤ WM.more (D.map WM.ZC.nat) n ∧ WM.more (D.map WM.ZC.nat) n ≤ 1000000000) ∧ c.drop.length ≤ 1000000 := by
  have hF := WM.fol_nat hf
  have hn := (List.getElem?_eq_some_iff.1 hc).1
  have h1 := WM.at_more hF hc
  have h2 := WM.rep_at hF n (by omega)
  have h3 := h.rows hX (n + 1) (by omega)
  rw [WM.rep_step WM.added X hc, List.length_append] at h3
  have h4 := h.rows hX n (by omega)
  have h5 := aft_le hF (n := n) (by omega)
  have h6 := h.dropl c (List.mem_of_getElem? hc)
  omega
set_option maxHeartbeats 2000000 in
theorem Turn_gen (s : ByteArray) (hs : Few s) (D : List WM.ZC) (AD : Option Addr) (cD : Nat) (base : Nat) (w : World) (hm : Mx w) (hD : RdZ w base AD D) (hk : OkZ D) :
    Calls Tryz.prog 7 #[.string s, .slice AD D.length cD] w fun e w' => ∃ v, e = .returned (.tuple #[v, .int .i64 (codeP (WM.toks s) D)]) ∧ OwnC w' w.heap.size v (backP (WM.toks s) D) ∧ Below w.heap.size w w' := by
  have hP := Patch_gen s hs D AD cD base w hm hD hk
  obtain ⟨_, la⟩ := hs
  generalize WM.toks s = X at *
  by_cases hc : codeP X D = 0
  · have hf := code0 hc
    rw [hc] at hP
    have h := Turn_rd s (resP X D) (D.map WM.ZC.nat) AD cD base w (by rw [List.length_map]; exact hP) (hD.nat hf) (by rw [List.length_map]; exact hk.len) (fun c hc => Nat.le_trans (hk.addl c hc) (by omega)) (hk.hat la hf)
    rw [List.length_map] at h
    refine h.mono ?_
    rintro e w' ⟨v, rfl, ho, hb⟩
    exact ⟨v, by rw [hc], by rw [backP_ok hc, List.length_map]; exact ho, hb⟩
  · have HB := Lib.hid (backP_bad hc)
    obtain ⟨z, hz⟩ : ∃ z, z = codeP X D := ⟨_, rfl⟩
    rw [← hz] at hP hc
    have HZ := Lib.hid hz
    have hz' : (z != 0) = true := bne_iff_ne.2 hc
    generalize resP X D = S at *
    clear hz hD hk hm la
    go_enter Tryz.func7, Tryz.ntmps7
    go_wp2_with fail
    refine hP.mono ?_
    rintro e w1 ⟨rfl, hb1⟩
    have HB1 := Lib.hid hb1
    clear hP hb1
    go_wp2_with fail
    exact bodyPost_ret (v := .tuple #[.slice none 0 0, .int .i64 z]) (by simp [results, Tryz.results7, go_sem]) rfl ⟨_, by rw [← HZ.out], by rw [HB.out]; exact OwnC.nil _ _, HB1.out⟩
end Go.Proofs.YtndeifdpiimbeaaGreatDoor
