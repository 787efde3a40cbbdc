/- Contracts of near.Join and of the reference's JoinOf. -/
import Derived.Test.YtfdoecabkodnjaaDoorRowS
import Derived.Test.YtfdoecabkodnjaaDoorTokM
import Derived.Test.YtfdoecabkodnjaaDoorBlk
import Derived.Shelf.Strings.Builder1
import Derived.Lib.Builder
import Derived.Lib.Hide
namespace WM
/-- what Join puts ahead of element k -/
def gap (l : List ByteArray) : Nat → List UInt8
  | 0 => []
  | j + 1 => if l[j + 1]? ≠ some nl ∧ l[j]? ≠ some nl then [32] else []
def joinK (l : List ByteArray) : Nat → List UInt8
  | 0 => []
  | k + 1 => joinK l k ++ gap l k ++ (l.getD k ByteArray.empty).data.toList
def joinT (l : List ByteArray) : List UInt8 := joinK l l.length
theorem joinK_len (l : List ByteArray) (k : Nat) : ∀ n, (joinK l k).length ≤ (joinK l (k + n)).length
  | 0 => Nat.le_refl _
  | n + 1 => by
    have := joinK_len l k n
    rw [← Nat.add_assoc]
    simp only [joinK, List.length_append]
    omega
theorem joinK_le (l : List ByteArray) {k : Nat} (h : k ≤ l.length) : (joinK l k).length ≤ (joinT l).length := by
  have := joinK_len l k (l.length - k)
  rwa [Nat.add_sub_cancel' h] at this
theorem joinK_wt (l : List ByteArray) : ∀ k, k ≤ l.length → (joinK l k).length ≤ wt (l.take k)
  | 0, _ => by simp [joinK, wt]
  | k + 1, h => by
    have ih := joinK_wt l k (by omega)
    have hk : l.take (k + 1) = l.take k ++ [l[k]] := List.take_succ_eq_append_getElem h
    have hg : l.getD k ByteArray.empty = l[k] := by rw [List.getD_eq_getElem?_getD, List.getElem?_eq_getElem h]; rfl
    have hgap : (gap l k).length ≤ 1 := by
      cases k with
      | zero => simp [gap]
      | succ j =>
        show (if l[j + 1]? ≠ some nl ∧ l[j]? ≠ some nl then [(32 : UInt8)] else []).length ≤ 1
        split <;> simp
    have hs : l[k].data.toList.length = l[k].size := by simp
    rw [hk, wt_append]
    simp only [joinK, List.length_append, hg, wt, hs]
    omega
theorem joinT_wt (l : List ByteArray) : (joinT l).length ≤ wt l := by
  have := joinK_wt l _ (Nat.le_refl _)
  rwa [List.take_length] at this
end WM
namespace Go.Proofs.YtfdoecabkodnjaaDoor
open Go.RowKit

theorem Tryd.extra (ρ : Go.Shelf.Ren) (h5 : ρ.t 5 = 5) (h72 : ρ.t 72 = 47) : Builder.Extra Tryd.prog ρ where
  sizeBuilder := by rw [h72]; kernel_rfl
  liesBuilder := by rw [h72]; kernel_rfl
  t5 := by rw [h5]; exact Tryd.underlying5
  a5 := by rw [h5]; exact Tryd.isAgg5
  z5 := by rw [h5]; exact Tryd.sizeOf5
  v5 := by rw [h5]; exact Tryd.zeroValue5
  infoByte := by rw [h5]; kernel_rfl
  cellsByte := by rw [h5]; kernel_rfl
  sizeByte := by rw [h5]; kernel_rfl
  neB5 := by rw [h5, h72]; decide

/-- the builder in block b, of the call's own, holds the bytes l -/
def Bld (B b : Nat) (l : List UInt8) (w : World) : Prop := Lib.IsBuilder 47 5 B b (Lib.byteCells l) w
/-- the builder has taken in the bytes; what lay below lies -/
def Wrote (B b : Nat) (l : List UInt8) (w : World) (v : Value) (e : Ending) (w' : World) : Prop := e = .returned v ∧ Bld B b l w' ∧ Below B w w'
theorem byteCells_append (a b : List UInt8) : Lib.byteCells (a ++ b) = Lib.byteCells a ++ Lib.byteCells b := by simp [Lib.byteCells]
theorem byteCells_len (a : List UInt8) : (Lib.byteCells a).length = a.length := by simp [Lib.byteCells]
theorem writeByte_any (B b : Nat) (l : List UInt8) (c : UInt8) (w : World) (h : Bld B b l w) (hl : l.length ≤ 1000000000000) (hB : B ≤ w.heap.size) :
    Calls Tryd.prog 23 #[.pointer (some ⟨b, 0, none⟩), .int .u8 (c.toNat : Nat)] w (Wrote B b (l ++ [c]) w .nilIface) := by
  refine (Any.Builder_WriteByte Tryd.lays167 (Tryd.extra _ rfl rfl) B b (Lib.byteCells l) (c.toNat : Nat) w h (by rw [byteCells_len]; omega) hB).mono ?_
  rintro e w' ⟨rfl, h1, h2⟩
  refine ⟨rfl, .inr ?_, h2⟩
  rw [byteCells_append]
  exact h1
theorem writeStr_any (B b : Nat) (l : List UInt8) (s : ByteArray) (w : World) (h : Bld B b l w) (hl : l.length + s.size ≤ 2000000000000) (hB : B ≤ w.heap.size) :
    Calls Tryd.prog 24 #[.pointer (some ⟨b, 0, none⟩), .string s] w (Wrote B b (l ++ s.data.toList) w (.tuple #[.int .i64 s.size, .nilIface])) := by
  refine (Any.Builder_WriteString Tryd.lays166 (Tryd.extra _ rfl rfl) B b (Lib.byteCells l) s w h (by rw [byteCells_len]; omega) hB).mono ?_
  rintro e w' ⟨rfl, h1, h2⟩
  refine ⟨rfl, .inr ?_, h2⟩
  rw [byteCells_append]
  exact h1
/-- bytes are answered; what lay, lies -/
def SaysL (l : List UInt8) (w : World) (e : Ending) (w' : World) : Prop := e = .returned (.string ⟨l.toArray⟩) ∧ Below w.heap.size w w'
theorem string_any (B b : Nat) (l : List UInt8) (w : World) (h : Bld B b l w) (hB : B ≤ w.heap.size) :
    Calls Tryd.prog 25 #[.pointer (some ⟨b, 0, none⟩)] w fun e w' => e = .returned (.string ⟨l.toArray⟩) ∧ Below B w w' :=
  Any.Builder_String_any Tryd.lays169 (Tryd.extra _ rfl rfl) B b l w h hB

theorem toList_inj {a b : ByteArray} (h : a.toList = b.toList) : a = b := by
  rw [ByteArray.toList_eq, ByteArray.toList_eq] at h
  cases a; cases b
  simpa using h
def JoinRel (w : World) (l : List ByteArray) (i : Value) (wr : World) : Prop := ∃ k : Nat, k ≤ l.length ∧ i = .int .i64 k ∧ Bld w.heap.size w.heap.size (WM.joinK l k) wr ∧ Below w.heap.size w wr ∧ w.heap.size ≤ wr.heap.size
set_option maxHeartbeats 1000000 in
theorem Join_any (l : List ByteArray) (base : Nat) (v : Value) (w : World) (h : OwnS w base v l) (hl : (WM.joinT l).length ≤ 1000000000000) :
    Calls Tryd.prog 10 #[v] w (SaysL (WM.joinT l) w) := by
  obtain ⟨A, cap, rfl, hf⟩ := h.form
  have hn := h.len_le
  go_enter Tryd.func10, Tryd.ntmps10
  go_wp2_with fail
  go_loopw [8] (fun i wr => JoinRel w l i wr) (fun i _ => l.length - (intOf i).toNat)
  case atStart => exact ⟨0, Nat.zero_le _, rfl, Lib.fresh_isBuilder _ _ w, (Below.refl _ _).alloc (Nat.le_refl _) _, by simp⟩
  case round =>
    obtain ⟨k, hk, rfl, hbd, hbw, hsz⟩ := hrel
    by_cases hlt : k < l.length
    · obtain ⟨g, rfl, hg1, hg2, hcs⟩ := hf (by omega)
      have ht := List.getElem?_eq_getElem hlt
      generalize l[k] = t at ht
      have hct := (hbw.cell (p := ⟨g, k, none⟩) hg2).trans (hcs k t ht)
      have hjl := WM.joinK_le l (k := k + 1) hlt
      rcases k with _ | j
      · have hgap : WM.joinK l 1 = [] ++ t.data.toList := by simp [WM.joinK, WM.gap, ht]
        have HG := Lib.hid hgap
        have HL := Lib.hid (show ([] : List UInt8).length + t.size ≤ 2000000000000 by have hq : (WM.joinK l 1).length ≤ _ := hjl; have := congrArg List.length hgap; rw [this] at hq; simp at hq ⊢; omega)
        have HB := Lib.hid (And.intro hbd (And.intro hbw hsz))
        clear hgap hjl hbd hbw hsz hl
        go_wp2_with fail
        refine (writeStr_any _ _ _ t _ HB.out.1 HL.out HB.out.2.2).mono ?_
        rintro e w1 ⟨rfl, hb1, hw1⟩
        go_wp2_with fail
        exact ⟨⟨1, by omega, rfl, by rw [HG.out]; exact hb1, HB.out.2.1.trans hw1, Nat.le_trans HB.out.2.2 hw1.size⟩, by simp [intOf]; omega⟩
      · have hu := List.getElem?_eq_getElem (show j < l.length by omega)
        generalize l[j] = u at hu
        have hcu := (hbw.cell (p := ⟨g, j, none⟩) hg2).trans (hcs j u hu)
        have hsp : WM.joinK l (j + 1 + 1) = WM.joinK l (j + 1) ++ (if t.toList ≠ [10] ∧ u.toList ≠ [10] then [32] else []) ++ t.data.toList := by
          have e : ∀ x : ByteArray, (x ≠ WM.nl) ↔ x.toList ≠ [10] := fun x => not_congr ⟨fun h => by subst h; decide +kernel, fun h => toList_inj (h.trans (by decide +kernel))⟩
          show WM.joinK l (j + 1) ++ WM.gap l (j + 1) ++ _ = _
          simp [WM.gap, ht, hu, e]
        have HB := Lib.hid (And.intro hbd (And.intro hbw hsz))
        have hsz2 := congrArg List.length hsp
        simp only [List.length_append] at hsz2
        have hsl : t.data.toList.length = t.size := by simp
        by_cases h1 : t.toList = [10]
        · rw [if_neg (by simp [h1])] at hsp hsz2
          have HG := Lib.hid hsp
          have HL := Lib.hid (show (WM.joinK l (j + 1)).length + t.size ≤ 2000000000000 by simp at hsz2; omega)
          clear hsp hsz2 hsl hjl hbd hbw hsz hl
          go_wp2_with fail
          refine (writeStr_any _ _ _ t _ HB.out.1 HL.out HB.out.2.2).mono ?_
          rintro e w1 ⟨rfl, hb1, hw1⟩
          go_wp2_with fail
          exact ⟨⟨j + 1 + 1, by omega, by simp, by rw [HG.out, List.append_nil]; exact hb1, HB.out.2.1.trans hw1, Nat.le_trans HB.out.2.2 hw1.size⟩, by simp [intOf]; omega⟩
        · have h1' : (t.toList == [10]) = false := beq_eq_false_iff_ne.2 h1
          by_cases h2 : u.toList = [10]
          · rw [if_neg (by simp [h2])] at hsp hsz2
            have HG := Lib.hid hsp
            have HL := Lib.hid (show (WM.joinK l (j + 1)).length + t.size ≤ 2000000000000 by simp at hsz2; omega)
            clear hsp hsz2 hsl hjl hbd hbw hsz hl
            go_wp2_with fail
            refine (writeStr_any _ _ _ t _ HB.out.1 HL.out HB.out.2.2).mono ?_
            rintro e w1 ⟨rfl, hb1, hw1⟩
            go_wp2_with fail
            exact ⟨⟨j + 1 + 1, by omega, by simp, by rw [HG.out, List.append_nil]; exact hb1, HB.out.2.1.trans hw1, Nat.le_trans HB.out.2.2 hw1.size⟩, by simp [intOf]; omega⟩
          · have h2' : (u.toList == [10]) = false := beq_eq_false_iff_ne.2 h2
            rw [if_pos ⟨h1, h2⟩] at hsp hsz2
            have HG := Lib.hid hsp
            have HL := Lib.hid (show (WM.joinK l (j + 1) ++ [32]).length + t.size ≤ 2000000000000 by simp at hsz2 ⊢; omega)
            have HM := Lib.hid (show (WM.joinK l (j + 1)).length ≤ 1000000000000 by simp at hsz2; omega)
            clear hsp hsz2 hsl hjl hbd hbw hsz hl
            go_wp2_with fail
            refine (writeByte_any _ _ _ 32 _ HB.out.1 HM.out HB.out.2.2).mono ?_
            rintro e w1 ⟨rfl, hb1, hw1⟩
            go_wp2_with fail
            refine (writeStr_any _ _ _ t _ hb1 HL.out (Nat.le_trans HB.out.2.2 hw1.size)).mono ?_
            rintro e w2 ⟨rfl, hb2, hw2⟩
            go_wp2_with fail
            exact ⟨⟨j + 1 + 1, by omega, by simp, by rw [HG.out]; exact hb2, HB.out.2.1.trans (hw1.trans hw2), Nat.le_trans HB.out.2.2 (Nat.le_trans hw1.size hw2.size)⟩, by simp [intOf]; omega⟩
    · obtain rfl : k = l.length := by omega
      go_wp2_with fail
      refine (string_any _ _ _ _ hbd hsz).mono ?_
      rintro e w' ⟨rfl, hb'⟩
      go_wp2_with fail
      go_ret
      exact ⟨rfl, hbw.trans hb'⟩
set_option maxHeartbeats 1000000 in
theorem JoinOf_any (l : List ByteArray) (base : Nat) (v : Value) (w : World) (h : OwnS w base v l) (hl : (WM.joinT l).length ≤ 1000000000000) :
    Calls Tryd.prog 11 #[v] w (SaysL (WM.joinT l) w) := by
  obtain ⟨A, cap, rfl, hf⟩ := h.form
  have hn := h.len_le
  go_enter Tryd.func11, Tryd.ntmps11
  go_wp2_with fail
  go_loopw [8] (fun i wr => JoinRel w l i wr) (fun i _ => l.length - (intOf i).toNat)
  case atStart => exact ⟨0, Nat.zero_le _, rfl, Lib.fresh_isBuilder _ _ w, (Below.refl _ _).alloc (Nat.le_refl _) _, by simp⟩
  case round =>
    obtain ⟨k, hk, rfl, hbd, hbw, hsz⟩ := hrel
    by_cases hlt : k < l.length
    · obtain ⟨g, rfl, hg1, hg2, hcs⟩ := hf (by omega)
      have ht := List.getElem?_eq_getElem hlt
      generalize l[k] = t at ht
      have hct := (hbw.cell (p := ⟨g, k, none⟩) hg2).trans (hcs k t ht)
      have hjl := WM.joinK_le l (k := k + 1) hlt
      rcases k with _ | j
      · have hgap : WM.joinK l 1 = [] ++ t.data.toList := by simp [WM.joinK, WM.gap, ht]
        have HG := Lib.hid hgap
        have HL := Lib.hid (show ([] : List UInt8).length + t.size ≤ 2000000000000 by have hq : (WM.joinK l 1).length ≤ _ := hjl; have := congrArg List.length hgap; rw [this] at hq; simp at hq ⊢; omega)
        have HB := Lib.hid (And.intro hbd (And.intro hbw hsz))
        clear hgap hjl hbd hbw hsz hl
        go_wp2_with fail
        refine (writeStr_any _ _ _ t _ HB.out.1 HL.out HB.out.2.2).mono ?_
        rintro e w1 ⟨rfl, hb1, hw1⟩
        go_wp2_with fail
        exact ⟨⟨1, by omega, rfl, by rw [HG.out]; exact hb1, HB.out.2.1.trans hw1, Nat.le_trans HB.out.2.2 hw1.size⟩, by simp [intOf]; omega⟩
      · have hu := List.getElem?_eq_getElem (show j < l.length by omega)
        generalize l[j] = u at hu
        have hcu := (hbw.cell (p := ⟨g, j, none⟩) hg2).trans (hcs j u hu)
        have hsp : WM.joinK l (j + 1 + 1) = WM.joinK l (j + 1) ++ (if t.toList ≠ [10] ∧ u.toList ≠ [10] then [32] else []) ++ t.data.toList := by
          have e : ∀ x : ByteArray, (x ≠ WM.nl) ↔ x.toList ≠ [10] := fun x => not_congr ⟨fun h => by subst h; decide +kernel, fun h => toList_inj (h.trans (by decide +kernel))⟩
          show WM.joinK l (j + 1) ++ WM.gap l (j + 1) ++ _ = _
          simp [WM.gap, ht, hu, e]
        have HB := Lib.hid (And.intro hbd (And.intro hbw hsz))
        have hsz2 := congrArg List.length hsp
        simp only [List.length_append] at hsz2
        have hsl : t.data.toList.length = t.size := by simp
        by_cases h1 : t.toList = [10]
        · rw [if_neg (by simp [h1])] at hsp hsz2
          have HG := Lib.hid hsp
          have HL := Lib.hid (show (WM.joinK l (j + 1)).length + t.size ≤ 2000000000000 by simp at hsz2; omega)
          clear hsp hsz2 hsl hjl hbd hbw hsz hl
          go_wp2_with fail
          refine (writeStr_any _ _ _ t _ HB.out.1 HL.out HB.out.2.2).mono ?_
          rintro e w1 ⟨rfl, hb1, hw1⟩
          go_wp2_with fail
          exact ⟨⟨j + 1 + 1, by omega, by simp, by rw [HG.out, List.append_nil]; exact hb1, HB.out.2.1.trans hw1, Nat.le_trans HB.out.2.2 hw1.size⟩, by simp [intOf]; omega⟩
        · have h1' : (t.toList == [10]) = false := beq_eq_false_iff_ne.2 h1
          by_cases h2 : u.toList = [10]
          · rw [if_neg (by simp [h2])] at hsp hsz2
            have HG := Lib.hid hsp
            have HL := Lib.hid (show (WM.joinK l (j + 1)).length + t.size ≤ 2000000000000 by simp at hsz2; omega)
            clear hsp hsz2 hsl hjl hbd hbw hsz hl
            go_wp2_with fail
            refine (writeStr_any _ _ _ t _ HB.out.1 HL.out HB.out.2.2).mono ?_
            rintro e w1 ⟨rfl, hb1, hw1⟩
            go_wp2_with fail
            exact ⟨⟨j + 1 + 1, by omega, by simp, by rw [HG.out, List.append_nil]; exact hb1, HB.out.2.1.trans hw1, Nat.le_trans HB.out.2.2 hw1.size⟩, by simp [intOf]; omega⟩
          · have h2' : (u.toList == [10]) = false := beq_eq_false_iff_ne.2 h2
            rw [if_pos ⟨h1, h2⟩] at hsp hsz2
            have HG := Lib.hid hsp
            have HL := Lib.hid (show (WM.joinK l (j + 1) ++ [32]).length + t.size ≤ 2000000000000 by simp at hsz2 ⊢; omega)
            have HM := Lib.hid (show (WM.joinK l (j + 1)).length ≤ 1000000000000 by simp at hsz2; omega)
            clear hsp hsz2 hsl hjl hbd hbw hsz hl
            go_wp2_with fail
            refine (writeStr_any _ _ _ ⟨#[32]⟩ _ HB.out.1 (by show (WM.joinK l (j + 1)).length + 1 ≤ _; have := HM.out; omega) HB.out.2.2).mono ?_
            rintro e w1 ⟨rfl, hb1, hw1⟩
            go_wp2_with fail
            refine (writeStr_any _ _ _ t _ hb1 HL.out (Nat.le_trans HB.out.2.2 hw1.size)).mono ?_
            rintro e w2 ⟨rfl, hb2, hw2⟩
            go_wp2_with fail
            exact ⟨⟨j + 1 + 1, by omega, by simp, by rw [HG.out]; exact hb2, HB.out.2.1.trans (hw1.trans hw2), Nat.le_trans HB.out.2.2 (Nat.le_trans hw1.size hw2.size)⟩, by simp [intOf]; omega⟩
    · obtain rfl : k = l.length := by omega
      go_wp2_with fail
      refine (string_any _ _ _ _ hbd hsz).mono ?_
      rintro e w' ⟨rfl, hb'⟩
      go_wp2_with fail
      go_ret
      exact ⟨rfl, hbw.trans hb'⟩
end Go.Proofs.YtfdoecabkodnjaaDoor
