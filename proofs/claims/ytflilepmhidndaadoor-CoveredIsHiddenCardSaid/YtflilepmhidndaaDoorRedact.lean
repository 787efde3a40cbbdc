/- Contract of privilege.Redact at a right text and right spans. -/
import Derived.Test.YtflilepmhidndaaDoorRedM
namespace Go.Proofs.YtflilepmhidndaaDoor
open Go.RowKit

def RdRel (w : World) (l : List UInt8) (M : List (Int × Int)) (g B : Nat) (v i : Value) (wr : World) : Prop := ∃ k : Nat, i = .int .i64 k ∧ k ≤ M.length ∧ Hid (BRow wr g (PT.red (PT.rc (WM.cov (M.take k))) l)) ∧ Hid (OwnI wr B v M) ∧ Below w.heap.size w wr
def RdIn (w : World) (l : List UInt8) (M : List (Int × Int)) (g B bx k p q : Nat) (v i : Value) (wr : World) : Prop := ∃ z : Nat, i = .int .i64 z ∧ p ≤ z ∧ z ≤ q ∧ Hid (BRow wr g (PT.red (PT.rc (fun j => WM.cov (M.take k) j ∨ ((p : Int) ≤ j ∧ j < (z : Int)))) l)) ∧ Hid (OwnI wr B v M) ∧ Blk wr bx 38 #[.int .i64 p, .int .i64 q] ∧ Below w.heap.size w wr
theorem rd_step {l : List UInt8} {D : Int → Prop} {p z : Nat} {u : UInt8} (hp : p ≤ z) (hu : (PT.red (PT.rc (fun j => D j ∨ ((p : Int) ≤ j ∧ j < (z : Int)))) l)[z]? = some u) : PT.red (PT.rc (fun j => D j ∨ ((p : Int) ≤ j ∧ j < ((z + 1 : Nat) : Int)))) l = (PT.red (PT.rc (fun j => D j ∨ ((p : Int) ≤ j ∧ j < (z : Int)))) l).set z (PT.rdc u) := by
  refine PT.red_set hu (PT.rc_iff.2 (.inr ⟨by omega, by omega⟩)) fun j hj => PT.rc_congr ?_
  constructor <;> rintro (h | h)
  · exact .inl h
  · exact .inr ⟨h.1, by omega⟩
  · exact .inl h
  · exact .inr ⟨h.1, by omega⟩
theorem rd_first {l : List UInt8} {D : Int → Prop} {p : Nat} : PT.red (PT.rc (fun j => D j ∨ ((p : Int) ≤ j ∧ j < (p : Int)))) l = PT.red (PT.rc D) l :=
  PT.red_congr fun i _ => PT.rc_congr ⟨fun h => h.elim id (fun h => by omega), .inl⟩
theorem rd_last {l : List UInt8} {M : List (Int × Int)} {k p q : Nat} (hx : M[k]? = some ((p : Int), (q : Int))) : PT.red (PT.rc (fun j => WM.cov (M.take k) j ∨ ((p : Int) ≤ j ∧ j < (q : Int)))) l = PT.red (PT.rc (WM.cov (M.take (k + 1)))) l :=
  PT.red_congr fun i _ => PT.rc_congr (by rw [List.take_add_one, hx]; exact (WM.cov_stretch _).symm)
set_option maxHeartbeats 16000000 in
set_option maxRecDepth 100000 in
theorem Redact_ok {w : World} {b : Nat} {v : Value} {L : List (Int × Int)} (h : OwnI w b v L) (s : ByteArray) (hB : TB.bodyC s = 0) (hLf : WM.spFault s.size L = 0) (h0 : PT.cont (s.data.toList.getD 0 0) = false) (hT : LibV w) :
    Calls Tryd.prog 8 #[.string s, v] w fun e w' => e = .returned (.tuple #[.string ⟨(PT.red (PT.covB s.data.toList (WM.cov L)) s.data.toList).toArray⟩, .int .i64 0]) ∧ Below w.heap.size w w' := by
  have hs : s.size ≤ 20000 := by
    unfold TB.bodyC at hB
    split at hB
    · cases hB
    · omega
  have hlen : s.data.toList.length = s.size := by simp
  have hF := WM.spFault_ok hLf
  have hL : ∀ x, x ∈ L → 0 ≤ x.1 ∧ x.1 < x.2 ∧ x.2 ≤ s.data.toList.length := fun x hx => by
    have := hF.2.2.2.2 x hx
    have h2 := WM.sep_ne hF.2.2.2.1 x hx
    omega
  have hC := checkCovered_ok h s hB hLf hT
  have hRS := Lib.hid (PT.red_st hL)
  have hin := PT.st_in hL
  obtain ⟨M, hM⟩ : ∃ M, L.map (PT.st s.data.toList) = M := ⟨_, rfl⟩
  have hMl : M.length ≤ 1000 := by rw [← hM, List.length_map]; exact hF.2.2.1
  have H := Lib.hid h
  have hP := fun W (hw : Below w.heap.size w W) => pointsWhole_any (H.out.below hw) (by omega) (by omega) (by rw [hlen] at hL; exact hL) h0
  rw [hM] at hP hRS hin
  rw [← hRS.out]
  have HIN := Lib.hid hin
  clear h hB hLf h0 hT hF hL hM hin hRS
  go_enter Tryd.func8, Tryd.ntmps8
  go_wp2_with fail
  refine hC.mono ?_
  rintro e w1 ⟨rfl, hb1⟩
  obtain ⟨W, cp, hconv, hbW, hgW, hrow⟩ := conv_bytes s w1
  have hP2 := hP W (hb1.trans (hbW.mono hb1.size))
  have HB1 := Lib.hid (hb1.trans (hbW.mono hb1.size))
  have HR1 := Lib.hid (show BRow W w1.heap.size s.data.toList from hrow)
  have hsz1 := hb1.size
  clear hC hb1 hbW hrow hP
  go_wp2_with fail
  refine hP2.mono ?_
  rintro e w2 ⟨v2, rfl, ho2, hb2⟩
  have HR2 := Lib.hid (HR1.out.below hb2 hgW)
  have HW2 := Lib.hid (HB1.out.trans (hb2.mono HB1.out.size))
  obtain ⟨A, cap, rfl, hl2, hf2⟩ := ho2.form
  have HO2 := Lib.hid ho2
  have hAg : 0 < M.length → ∃ g2, A = some ⟨g2, 0, none⟩ := fun h => by obtain ⟨g, e, _⟩ := hf2 h; exact ⟨g, e⟩
  generalize hgg : w1.heap.size = g at *
  generalize hBB : W.heap.size = B at *
  have hgsz : g < w2.heap.size := Nat.lt_of_lt_of_le hgW (by have := hb2.size; omega)
  clear hP2 ho2 hb2 hconv hf2 HB1 HR1
  go_wp2_with fail
  go_loopw [23] (fun i wr => RdRel w s.data.toList M g B (.slice A M.length cap) i wr) (fun i _ => M.length - (intOf i).toNat)
  case atStart => exact ⟨0, rfl, Nat.zero_le _, Lib.hid (by rw [PT.red_no _ _ fun i _ => Bool.eq_false_iff.2 fun h => WM.cov_nil _ (by have := PT.rc_iff.1 h; simpa using this)]; exact HR2.out), Lib.hid HO2.out, HW2.out⟩
  case round =>
    obtain ⟨k, rfl, hk, HR, HO, hbw⟩ := hrel
    by_cases hlt : k < M.length
    · obtain ⟨g2, rfl⟩ := hAg (by omega)
      have hx := List.getElem?_eq_getElem hlt
      have hm := HIN.out _ (List.getElem_mem hlt)
      generalize M[k] = x at hx hm
      obtain ⟨p, q⟩ := x
      dsimp only at hm
      obtain ⟨P, rfl⟩ := Int.eq_ofNat_of_zero_le hm.1
      obtain ⟨Q, rfl⟩ := Int.eq_ofNat_of_zero_le (show 0 ≤ q by omega)
      obtain ⟨c1, c2, c3, c4⟩ := HO.out.atK hx
      have hPQ : P < Q ∧ Q ≤ s.size := by omega
      have HX := Lib.hid hx
      have HB := Lib.hid hbw
      have hsw := hbw.size
      obtain ⟨wo, hwo⟩ : ∃ wo : World, wo = wr := ⟨_, rfl⟩
      subst hwo
      have hE := (Blk.new wo 38 #[.int .i64 P, .int .i64 Q])
      have e0 := hE.cell 0
      have e1 := hE.cell 1
      simp at e0 e1
      have HE := Lib.hid hE
      clear hx hm hbw hE hAg
      go_wp2_with fail
      go_loopw [10] (fun i wr => RdIn w s.data.toList M g B wo.heap.size k P Q (.slice (some ⟨g2, 0, none⟩) M.length cap) i wr) (fun i _ => Q - (intOf i).toNat)
      case atStart => exact ⟨P, rfl, Nat.le_refl _, by omega, Lib.hid (by rw [rd_first]; exact HR.out.below ((Below.refl wo.heap.size wo).alloc (Nat.le_refl _) _) (by omega)), Lib.hid (HO.out.alloc _), HE.out, HB.out.alloc hsw _⟩
      case round =>
        obtain ⟨z, rfl, hz1, hz2, HRz, HOz, hE, hbz⟩ := hrel
        have e0 := hE.cell 0
        have e1 := hE.cell 1
        simp at e0 e1
        by_cases hzq : z < Q
        · have hzl : z < s.data.toList.length := by omega
          obtain ⟨u, hu⟩ : ∃ u, (PT.red (PT.rc (fun j => WM.cov (M.take k) j ∨ ((P : Int) ≤ j ∧ j < (z : Int)))) s.data.toList)[z]? = some u := ⟨_, List.getElem?_eq_getElem (by rw [PT.red_len]; exact hzl)⟩
          obtain ⟨b1, b2⟩ := HRz.out z u hu
          have HST := Lib.hid (rd_step hz1 hu)
          have HU := Lib.hid hu
          have HBZ := Lib.hid (And.intro hE hbz)
          clear hu hE hbz
          by_cases h32 : u.toNat = 32
          · have hSame : Hid (BRow wr g (PT.red (PT.rc (fun j => WM.cov (M.take k) j ∨ ((P : Int) ≤ j ∧ j < ((z + 1 : Nat) : Int)))) s.data.toList)) := Lib.hid (by rw [HST.out, PT.rdc_keep (.inl h32), PT.set_same HU.out]; exact HRz.out)
            go_wp2_with fail
            exact ⟨⟨z + 1, by simp, by omega, by omega, hSame, HOz, HBZ.out.1, HBZ.out.2⟩, by simp [intOf]; omega⟩
          · by_cases h10 : u.toNat = 10
            · have hSame : Hid (BRow wr g (PT.red (PT.rc (fun j => WM.cov (M.take k) j ∨ ((P : Int) ≤ j ∧ j < ((z + 1 : Nat) : Int)))) s.data.toList)) := Lib.hid (by rw [HST.out, PT.rdc_keep (.inr h10), PT.set_same HU.out]; exact HRz.out)
              go_wp2_with fail
              exact ⟨⟨z + 1, by simp, by omega, by omega, hSame, HOz, HBZ.out.1, HBZ.out.2⟩, by simp [intOf]; omega⟩
            · have n32 : ((u.toNat : Int) != 32) = true := bne_iff_ne.2 (by omega)
              have n10 : ((u.toNat : Int) != 10) = true := bne_iff_ne.2 (by omega)
              have hNew : Hid (BRow (wr.setCell ⟨g, z, none⟩ (.int .u8 35)) g (PT.red (PT.rc (fun j => WM.cov (M.take k) j ∨ ((P : Int) ≤ j ∧ j < ((z + 1 : Nat) : Int)))) s.data.toList)) := Lib.hid (by rw [HST.out, PT.rdc_sign h32 h10]; exact HRz.out.set HU.out 35)
              go_wp2_with fail
              exact ⟨⟨z + 1, by simp, by omega, by omega, hNew, Lib.hid (HOz.out.other hgW _), HBZ.out.1.far (p := ⟨g, z, none⟩) (by show wo.heap.size ≠ g; omega) _, below_setI HBZ.out.2 (p := ⟨g, z, none⟩) hsz1 _⟩, by simp [intOf]; omega⟩
        · obtain rfl : z = Q := by omega
          have hN : Hid (BRow wr g (PT.red (PT.rc (WM.cov (M.take (k + 1)))) s.data.toList)) := Lib.hid (by rw [← rd_last HX.out]; exact HRz.out)
          go_wp2_with fail
          exact ⟨⟨k + 1, by simp, by omega, hN, HOz, hbz⟩, by simp [intOf]; omega⟩
    · obtain rfl : k = M.length := by omega
      have hR := HR.out
      rw [List.take_length] at hR
      have hK := hR.str (n := s.size) (by rw [PT.red_len]; exact hlen) cp
      have HB := Lib.hid hbw
      clear hR hbw hAg
      go_wp2_with fail
      go_ret2
      exact ⟨rfl, HB.out⟩
end Go.Proofs.YtflilepmhidndaaDoor
