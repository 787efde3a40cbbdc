/- Contract of the reference's RedactOf. -/
import Derived.Test.YtdmgfkgfcofmhaaDoorCovOf
import Derived.Test.YtdmgfkgfcofmhaaDoorRedM
namespace PT
/-- covered up to byte k -/
def upTo (f : Nat → Bool) (k j : Nat) : Bool := decide (j < k) && f j
theorem upTo_yes {f : Nat → Bool} {l : List UInt8} {k : Nat} {u : UInt8} (hu : (red (upTo f k) l)[k]? = some u) (h : f k = true) : red (upTo f (k + 1)) l = (red (upTo f k) l).set k (rdc u) := by
  refine red_set hu (by unfold upTo; rw [h, decide_eq_true (by omega)]; rfl) fun j hj => ?_
  unfold upTo
  by_cases h1 : j < k
  · rw [decide_eq_true h1, decide_eq_true (by omega)]
  · rw [decide_eq_false h1, decide_eq_false (by omega)]
theorem upTo_no {f : Nat → Bool} {l : List UInt8} {k : Nat} (h : f k = false) : red (upTo f (k + 1)) l = red (upTo f k) l :=
  red_congr fun j _ => by
    unfold upTo
    by_cases e : j = k
    · rw [e, h, Bool.and_false, Bool.and_false]
    · by_cases h1 : j < k
      · rw [decide_eq_true h1, decide_eq_true (by omega)]
      · rw [decide_eq_false h1, decide_eq_false (by omega)]
theorem upTo_all (f : Nat → Bool) (l : List UInt8) : red (upTo f l.length) l = red f l := red_congr fun j hj => by unfold upTo; rw [decide_eq_true hj]; rfl
theorem upTo_zero (f : Nat → Bool) (l : List UInt8) : red (upTo f 0) l = l := red_no _ _ fun j _ => by unfold upTo; rw [decide_eq_false (by omega)]; rfl
end PT
namespace Go.Proofs.YtdmgfkgfcofmhaaDoor
open Go.RowKit

def RoRel (w : World) (l : List UInt8) (f : Nat → Bool) (g g2 : Nat) (i : Value) (wr : World) : Prop := ∃ k : Nat, i = .int .i64 k ∧ k ≤ l.length ∧ Hid (BRow wr g (PT.red (PT.upTo f k) l)) ∧ Hid (Bits wr g2 l.length f) ∧ Below w.heap.size w wr
set_option maxHeartbeats 8000000 in
set_option maxRecDepth 100000 in
theorem RedactOf_ok {w : World} {b : Nat} {v : Value} {L : List (Int × Int)} (h : OwnI w b v L) (s : ByteArray) (hs : s.size ≤ 1000000) (hv : Go.Lib.validD s.data.toList = true) (hL : ∀ x, x ∈ L → 0 ≤ x.1 ∧ x.1 < x.2 ∧ x.2 ≤ s.size) (hT : LibV w) :
    Calls Tryd.prog 15 #[.string s, v] w fun e w' => e = .returned (.string ⟨(PT.red (PT.covB s.data.toList (WM.cov L)) s.data.toList).toArray⟩) ∧ Below w.heap.size w w' := by
  have hlen : s.data.toList.length = s.size := by simp
  obtain ⟨W, cp, hconv, hbW, hgW, hrow⟩ := conv_bytes s w
  have hC := coveredOf_any (h.below hbW) s hs hv hL (hT.belowW hbW)
  have HB1 := Lib.hid hbW
  have HR1 := Lib.hid (show BRow W w.heap.size s.data.toList from hrow)
  unfold CovSays at hC
  obtain ⟨f, hf⟩ : ∃ f, PT.covB s.data.toList (WM.cov L) = f := ⟨_, rfl⟩
  rw [hf] at hC ⊢
  have hall := PT.upTo_all f s.data.toList
  have HALL := Lib.hid hall
  clear h hv hL hT hbW hrow hf hall
  go_enter Tryd.func15, Tryd.ntmps15
  go_wp2_with fail
  refine hC.mono ?_
  rintro e w2 ⟨g2, rfl, hg2, hB2, hb2⟩
  have HR2 := Lib.hid (HR1.out.below hb2 hgW)
  have HW2 := Lib.hid (HB1.out.trans (hb2.mono HB1.out.size))
  have HBT := Lib.hid hB2
  generalize hgg : w.heap.size = g at *
  clear hC hb2 hconv HB1 HR1 hB2
  go_wp2_with fail
  go_loopw [14] (fun i wr => RoRel w s.data.toList f g g2 i wr) (fun i _ => s.size - (intOf i).toNat)
  case atStart => exact ⟨0, rfl, Nat.zero_le _, Lib.hid (by rw [PT.upTo_zero]; exact HR2.out), Lib.hid (by rw [hlen]; exact HBT.out), by rw [hgg]; exact HW2.out⟩
  case round =>
    obtain ⟨k, rfl, hk, HR, HF, hbw⟩ := hrel
    have HB := Lib.hid hbw
    rw [hlen] at hk
    by_cases hlt : k < s.size
    · have hlt' : k < s.data.toList.length := by omega
      obtain ⟨u, hu⟩ : ∃ u, (PT.red (PT.upTo f k) s.data.toList)[k]? = some u := ⟨_, List.getElem?_eq_getElem (by rw [PT.red_len]; exact hlt')⟩
      obtain ⟨b1, b2⟩ := HR.out k u hu
      have c1 := HF.out.cell hlt'
      have HU := Lib.hid hu
      clear hu hbw
      cases hfk : f k
      · rw [hfk] at c1
        have HN := Lib.hid (show BRow wr g (PT.red (PT.upTo f (k + 1)) s.data.toList) by rw [PT.upTo_no hfk]; exact HR.out)
        clear hfk
        go_wp2_with fail
        exact ⟨⟨k + 1, by simp, by omega, HN, HF, HB.out⟩, by simp [intOf]; omega⟩
      · rw [hfk] at c1
        have HST := Lib.hid (PT.upTo_yes HU.out hfk)
        clear hfk
        by_cases h32 : u.toNat = 32
        · have hSame : Hid (BRow wr g (PT.red (PT.upTo f (k + 1)) s.data.toList)) := Lib.hid (by rw [HST.out, PT.rdc_keep (.inl h32), PT.set_same HU.out]; exact HR.out)
          go_wp2_with fail
          exact ⟨⟨k + 1, by simp, by omega, hSame, HF, HB.out⟩, by simp [intOf]; omega⟩
        · have n32 : ((u.toNat : Int) != 32) = true := bne_iff_ne.2 (by omega)
          by_cases h10 : u.toNat = 10
          · have hSame : Hid (BRow wr g (PT.red (PT.upTo f (k + 1)) s.data.toList)) := Lib.hid (by rw [HST.out, PT.rdc_keep (.inr h10), PT.set_same HU.out]; exact HR.out)
            go_wp2_with fail
            exact ⟨⟨k + 1, by simp, by omega, hSame, HF, HB.out⟩, by simp [intOf]; omega⟩
          · have n10 : ((u.toNat : Int) != 10) = true := bne_iff_ne.2 (by omega)
            have hNew : Hid (BRow (wr.setCell ⟨g, k, none⟩ (.int .u8 35)) g (PT.red (PT.upTo f (k + 1)) s.data.toList)) := Lib.hid (by rw [HST.out, PT.rdc_sign h32 h10]; exact HR.out.set HU.out 35)
            have HF2 := Lib.hid (HF.out.other (a := ⟨g, k, none⟩) (by show g2 ≠ g; have := HW2.out.size; omega) (.int .u8 35))
            have HB2 := Lib.hid (below_setI HB.out (p := ⟨g, k, none⟩) (by show _ ≤ g; omega) (.int .u8 35))
            go_wp2_with fail
            exact ⟨⟨k + 1, by simp, by omega, hNew, HF2, HB2.out⟩, by simp [intOf]; omega⟩
    · obtain rfl : k = s.size := by omega
      have hR := HR.out
      rw [← hlen, HALL.out] at hR
      have hK := hR.str (n := s.size) (by rw [PT.red_len]; exact hlen) cp
      clear hR hbw
      go_wp2_with fail
      go_ret
      exact ⟨rfl, HB.out⟩
end Go.Proofs.YtdmgfkgfcofmhaaDoor
