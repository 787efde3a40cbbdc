/- Contracts of near.Join and of the reference's JoinOf. -/
import Derived.Test.YtndeifdpiimbeaaGreatDoorRowS
import Derived.Test.YtndeifdpiimbeaaGreatDoorPlain
import Derived.Test.YtndeifdpiimbeaaGreatDoorBldB
import Derived.Lib.Hide
namespace Go.Proofs.YtndeifdpiimbeaaGreatDoor
open Go.RowKit

theorem toList_inj {a b : ByteArray} (h : a.toList = b.toList) : a = b := by
  rw [ByteArray.toList_eq, ByteArray.toList_eq] at h
  cases a; cases b
  simpa using h
def JoinRel (w : World) (l : List ByteArray) (i : Value) (wr : World) : Prop := ∃ k : Nat, k ≤ l.length ∧ i = .int .i64 k ∧ Bld w.heap.size w.heap.size (WM.joinK l k) wr ∧ Below w.heap.size w wr ∧ w.heap.size ≤ wr.heap.size
set_option maxHeartbeats 1000000 in
theorem Join_any (l : List ByteArray) (base : Nat) (v : Value) (w : World) (h : OwnS w base v l) (hl : (WM.joinT l).length ≤ 1000000000000) :
    Calls Tryz.prog 22 #[v] w (SaysL (WM.joinT l) w) := by
  obtain ⟨A, cap, rfl, hf⟩ := h.form
  have hn := h.len_le
  go_enter Tryz.func22, Tryz.ntmps22
  go_wp2_with fail
  go_loopw [8] (fun i wr => JoinRel w l i wr) (fun i _ => l.length - (intOf i).toNat)
  case atStart => exact ⟨0, Nat.zero_le _, rfl, Lib.fresh_isBuilder _ _ w, (Below.refl _ _).alloc (Nat.le_refl _) _, by simp⟩
  case round =>
    obtain ⟨k, hk, rfl, hbd, hbw, hsz⟩ := hrel
    by_cases hlt : k < l.length
    · obtain ⟨g, rfl, hg1, hg2, hcs⟩ := hf (by omega)
      have ht := List.getElem?_eq_getElem hlt
      generalize l[k] = t at ht
      have hct := (hbw.cell (p := ⟨g, k, none⟩) hg2).trans (hcs k t ht)
      have hjl := WM.joinK_le l (k := k + 1) hlt
      rcases k with _ | j
      · have hgap : WM.joinK l 1 = [] ++ t.data.toList := by simp [WM.joinK, WM.gap, ht]
        have HG := Lib.hid hgap
        have HL := Lib.hid (show ([] : List UInt8).length + t.size ≤ 2000000000000 by have hq : (WM.joinK l 1).length ≤ _ := hjl; have := congrArg List.length hgap; rw [this] at hq; simp at hq ⊢; omega)
        have HB := Lib.hid (And.intro hbd (And.intro hbw hsz))
        clear hgap hjl hbd hbw hsz hl
        go_wp2_with fail
        refine (writeStr_any _ _ _ t _ HB.out.1 HL.out HB.out.2.2).mono ?_
        rintro e w1 ⟨rfl, hb1, hw1⟩
        go_wp2_with fail
        exact ⟨⟨1, by omega, rfl, by rw [HG.out]; exact hb1, HB.out.2.1.trans hw1, Nat.le_trans HB.out.2.2 hw1.size⟩, by simp [intOf]; omega⟩
      · have hu := List.getElem?_eq_getElem (show j < l.length by omega)
        generalize l[j] = u at hu
        have hcu := (hbw.cell (p := ⟨g, j, none⟩) hg2).trans (hcs j u hu)
        have hsp : WM.joinK l (j + 1 + 1) = WM.joinK l (j + 1) ++ (if t.toList ≠ [10] ∧ u.toList ≠ [10] then [32] else []) ++ t.data.toList := by
          have e : ∀ x : ByteArray, (x ≠ WM.nl) ↔ x.toList ≠ [10] := fun x => not_congr ⟨fun h => by subst h; decide +kernel, fun h => toList_inj (h.trans (by decide +kernel))⟩
          show WM.joinK l (j + 1) ++ WM.gap l (j + 1) ++ _ = _
          simp [WM.gap, ht, hu, e]
        have HB := Lib.hid (And.intro hbd (And.intro hbw hsz))
        have hsz2 := congrArg List.length hsp
        simp only [List.length_append] at hsz2
        have hsl : t.data.toList.length = t.size := by simp
        by_cases h1 : t.toList = [10]
        · rw [if_neg (by simp [h1])] at hsp hsz2
          have HG := Lib.hid hsp
          have HL := Lib.hid (show (WM.joinK l (j + 1)).length + t.size ≤ 2000000000000 by simp at hsz2; omega)
          clear hsp hsz2 hsl hjl hbd hbw hsz hl
          go_wp2_with fail
          refine (writeStr_any _ _ _ t _ HB.out.1 HL.out HB.out.2.2).mono ?_
          rintro e w1 ⟨rfl, hb1, hw1⟩
          go_wp2_with fail
          exact ⟨⟨j + 1 + 1, by omega, by simp, by rw [HG.out, List.append_nil]; exact hb1, HB.out.2.1.trans hw1, Nat.le_trans HB.out.2.2 hw1.size⟩, by simp [intOf]; omega⟩
        · have h1' : (t.toList == [10]) = false := beq_eq_false_iff_ne.2 h1
          by_cases h2 : u.toList = [10]
          · rw [if_neg (by simp [h2])] at hsp hsz2
            have HG := Lib.hid hsp
            have HL := Lib.hid (show (WM.joinK l (j + 1)).length + t.size ≤ 2000000000000 by simp at hsz2; omega)
            clear hsp hsz2 hsl hjl hbd hbw hsz hl
            go_wp2_with fail
            refine (writeStr_any _ _ _ t _ HB.out.1 HL.out HB.out.2.2).mono ?_
            rintro e w1 ⟨rfl, hb1, hw1⟩
            go_wp2_with fail
            exact ⟨⟨j + 1 + 1, by omega, by simp, by rw [HG.out, List.append_nil]; exact hb1, HB.out.2.1.trans hw1, Nat.le_trans HB.out.2.2 hw1.size⟩, by simp [intOf]; omega⟩
          · have h2' : (u.toList == [10]) = false := beq_eq_false_iff_ne.2 h2
            rw [if_pos ⟨h1, h2⟩] at hsp hsz2
            have HG := Lib.hid hsp
            have HL := Lib.hid (show (WM.joinK l (j + 1) ++ [32]).length + t.size ≤ 2000000000000 by simp at hsz2 ⊢; omega)
            have HM := Lib.hid (show (WM.joinK l (j + 1)).length ≤ 1000000000000 by simp at hsz2; omega)
            clear hsp hsz2 hsl hjl hbd hbw hsz hl
            go_wp2_with fail
            refine (writeByte_any _ _ _ 32 _ HB.out.1 HM.out HB.out.2.2).mono ?_
            rintro e w1 ⟨rfl, hb1, hw1⟩
            go_wp2_with fail
            refine (writeStr_any _ _ _ t _ hb1 HL.out (Nat.le_trans HB.out.2.2 hw1.size)).mono ?_
            rintro e w2 ⟨rfl, hb2, hw2⟩
            go_wp2_with fail
            exact ⟨⟨j + 1 + 1, by omega, by simp, by rw [HG.out]; exact hb2, HB.out.2.1.trans (hw1.trans hw2), Nat.le_trans HB.out.2.2 (Nat.le_trans hw1.size hw2.size)⟩, by simp [intOf]; omega⟩
    · obtain rfl : k = l.length := by omega
      go_wp2_with fail
      refine (string_any _ _ _ _ hbd hsz).mono ?_
      rintro e w' ⟨rfl, hb'⟩
      go_wp2_with fail
      go_ret
      exact ⟨rfl, hbw.trans hb'⟩
end Go.Proofs.YtndeifdpiimbeaaGreatDoor
