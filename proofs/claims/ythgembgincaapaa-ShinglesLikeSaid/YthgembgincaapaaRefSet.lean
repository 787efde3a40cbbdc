/- Contracts of slices.BinarySearch, slices.Clone at strings; of the reference's shared, sorted, part. -/
import Derived.Test.YthgembgincaapaaFrac
import Derived.Test.YthgembgincaapaaConcat
import Derived.Test.YthgembgincaapaaLay2x26
import Derived.Test.YthgembgincaapaaLay2x16
import Derived.Shelf.Spec.SearchS
import Derived.Shelf.Slices.Clone
import Derived.Shelf.Slices.In.SortNone
namespace WM
/-- where x is, or would be, in a rising list -/
theorem place (x : Str) : ∀ l : List Str, Asc l → ∃ k, k ≤ l.length ∧ (∀ t, t < k → l.getD t x < x) ∧ (∀ t, k ≤ t → ¬ l.getD t x < x) ∧ (x ∈ l ↔ k < l.length ∧ l.getD k x = x)
  | [], _ => ⟨0, by simp, fun t h => by omega, fun t _ => by simp, by simp⟩
  | y :: l, h => by
    have hp := List.pairwise_cons.1 h
    obtain ⟨k, h1, h2, h3, h4⟩ := place x l hp.2
    by_cases hy : y < x
    · refine ⟨k + 1, by simp; omega, fun t ht => ?_, fun t ht => ?_, ?_⟩
      · cases t with
        | zero => exact hy
        | succ t => exact h2 t (by omega)
      · cases t with
        | zero => omega
        | succ t => exact h3 t (by omega)
      · rw [List.mem_cons, h4]
        have : x ≠ y := (Go.Proofs.Ythgembgincaapaa.LX.ne hy).symm
        simp [this]
    · refine ⟨0, by simp, fun t ht => by omega, fun t _ => ?_, ?_⟩
      · cases t with
        | zero => exact hy
        | succ t =>
          show ¬ l.getD t x < x
          intro hlt
          by_cases ht : t < l.length
          · rw [List.getD_eq_getElem?_getD, List.getElem?_eq_getElem ht] at hlt
            exact hy (Go.Proofs.Ythgembgincaapaa.LX.trans (hp.1 _ (List.getElem_mem ht)) hlt)
          · rw [List.getD_eq_getElem?_getD, List.getElem?_eq_none (by omega)] at hlt
            exact Go.Proofs.Ythgembgincaapaa.LX.irrefl x hlt
      · constructor
        · intro hm
          rcases List.mem_cons.1 hm with e | e
          · exact ⟨by simp, by simp [e]⟩
          · exact absurd (hp.1 x e) hy
        · rintro ⟨_, e⟩
          simp at e
          simp [e]
theorem cnt_snoc (X Y : List Str) (k : Nat) (x : Str) (h : X[k]? = some x) : cnt (X.take (k + 1)) Y = cnt (X.take k) Y + if x ∈ Y then 1 else 0 := by
  obtain ⟨hk, rfl⟩ := List.getElem?_eq_some_iff.1 h
  unfold cnt
  rw [List.take_succ_eq_append_getElem hk, List.filter_append, List.length_append]
  by_cases hm : X[k] ∈ Y <;> simp [hm]
end WM
namespace Go.Proofs.Ythgembgincaapaa
open Go.RowKit

/-- a place and whether it is there; only the draws have moved -/
def SaysBin (b : Bool) (w : World) (e : Ending) (w' : World) : Prop := ∃ n : Nat, e = .returned (.tuple #[.int .i64 n, .bool b]) ∧ ∃ q, w' = w.drewN q
theorem bl_getD (Y : List ByteArray) (t : Nat) (x : ByteArray) : (Y.getD t x).toList = (WM.bl Y).getD t x.toList := by
  have e : ∀ a : ByteArray, a.toList = a.data.toList := ByteArray.toList_eq
  rw [e, e]
  simp only [WM.bl, List.getD_eq_getElem?_getD, List.getElem?_map]
  cases Y[t]? <;> rfl
theorem toList_inj {a b : ByteArray} (h : a.toList = b.toList) : a = b := by
  rw [ByteArray.toList_eq, ByteArray.toList_eq] at h
  cases a; cases b
  simpa using h
theorem BinS_any {w : World} {base : Nat} {v : Value} {Y : List ByteArray} (h : OwnS w base v Y) (hY : WM.Asc (WM.bl Y)) (hl : Y.length ≤ 1000000000000) (x : ByteArray) (b : Bool) (hb : decide (x.toList ∈ WM.bl Y) = b) :
    Calls Try.prog 50 #[v, .string x] w (SaysBin b w) := by
  rcases h.2 with ⟨rfl, h2⟩ | ⟨g, cap, cur, rfl, hg, hh, hn, hc, hsz, ht⟩
  · have hn : Y = [] := List.eq_nil_of_length_eq_zero h2
    subst hn
    refine (Any2.slices_BinarySearch_string_empty Try.lays_2_26 none 0 x w).mono ?_
    rintro e w' ⟨rfl, rfl⟩
    refine ⟨0, ?_, 0, rfl⟩
    rw [← hb]; rfl
  · obtain ⟨k, h1, h2, h3, h4⟩ := WM.place x.toList (WM.bl Y) hY
    have hcell : ∀ j, j < Y.length → w.cell? ⟨g, 0 + j, none⟩ = some (.string (Y.getD j x)) := fun j hj => by
      rw [Nat.zero_add]
      refine (World.ownsRow.cellAt h j (by omega)).trans ?_
      simp [svs, List.getD_eq_getElem?_getD, List.getElem?_eq_getElem hj]
    refine (Any2.slices_BinarySearch_string Try.lays_2_26 g 0 Y.length cap (fun j => Y.getD j x) x w (by omega) hcell).mono ?_
    have hk : Lib.bsGo (fun t => Op.bytesLess (Y.getD t x).toList x.toList) Y.length 0 Y.length = k := by
      rw [WM.bl_len] at h1
      exact Lib.bsGo_spec _ k (fun t ht => by rw [LX.less_eq, bl_getD]; exact decide_eq_true (h2 t ht)) (fun t ht => by rw [LX.less_eq, bl_getD]; exact decide_eq_false (h3 t ht)) _ _ _ (by omega) (by omega) h1
    rintro e w' ⟨rfl, q, rfl⟩
    refine ⟨k, ?_, q, rfl⟩
    have hd : decide (k < Y.length ∧ Y.getD k x = x) = decide (x.toList ∈ WM.bl Y) := decide_eq_decide.2 (by
      rw [h4, WM.bl_len, ← bl_getD]
      constructor
      · rintro ⟨a, e⟩; exact ⟨a, by rw [e]⟩
      · rintro ⟨a, e⟩; exact ⟨a, toList_inj e⟩)
    rw [hk, ← hb, hd]

def ShrRel (w : World) (X Y : List ByteArray) (z i : Value) (wr : World) : Prop := ∃ k : Nat, k ≤ X.length ∧ i = .int .i64 k ∧ z = .int .i64 (WM.cnt ((WM.bl X).take k) (WM.bl Y) : Nat) ∧ ∃ q, wr = w.drewN q
set_option maxHeartbeats 2000000 in
theorem sharedR_any {w : World} {b1 b2 : Nat} {v1 v2 : Value} {X Y : List ByteArray} (h1 : OwnS w b1 v1 X) (h2 : OwnS w b2 v2 Y) (hY : WM.Asc (WM.bl Y)) (hl1 : X.length ≤ 1000000000) (hl2 : Y.length ≤ 1000000000) :
    Calls Try.prog 34 #[v1, v2] w (SaysI (WM.cnt (WM.bl X) (WM.bl Y)) w) := by
  have HB := fun q x b hb => BinS_any (w := w.drewN q) (h2.drewN q) hY (by omega) x b hb
  obtain ⟨A1, c1, rfl, hf1⟩ := h1.form
  clear h1 h2 hY
  go_enter Try.func34, Try.ntmps34
  go_wp2_with fail
  go_loopw [5, 12] (fun z i wr => ShrRel w X Y z i wr) (fun _ i _ => X.length - (intOf i).toNat)
  case atStart => exact ⟨0, by omega, rfl, rfl, 0, rfl⟩
  case round =>
    obtain ⟨k, hk, rfl, rfl, q, rfl⟩ := hrel
    by_cases hlt : k < X.length
    · obtain ⟨g1, rfl, _, _, hc1⟩ := hf1 (by omega)
      have hx := List.getElem?_eq_getElem hlt
      generalize X[k] = x at hx
      have hcx : (w.drewN q).cell? ⟨g1, k, none⟩ = some (.string x) := hc1 k x hx
      have hxl : (WM.bl X)[k]? = some x.toList := by
        have e : x.toList = x.data.toList := ByteArray.toList_eq x
        simp [WM.bl, hx, e]
      have hle : WM.cnt ((WM.bl X).take k) (WM.bl Y) ≤ X.length := by
        have := WM.cnt_le ((WM.bl X).take k) (WM.bl Y)
        have h2 : ((WM.bl X).take k).length ≤ (WM.bl X).length := by rw [List.length_take]; omega
        rw [WM.bl_len] at h2
        omega
      have HS := Lib.hid (WM.cnt_snoc (WM.bl X) (WM.bl Y) k _ hxl)
      generalize WM.cnt ((WM.bl X).take k) (WM.bl Y) = c at *
      clear hx hxl hc1 hf1
      by_cases hm : x.toList ∈ WM.bl Y
      · have hB := HB q x true (decide_eq_true hm)
        have HT := Lib.hid hm
        clear HB hm
        go_wp2_with fail
        refine hB.mono ?_
        rintro e w2 ⟨n, rfl, q2, rfl⟩
        go_wp2_with fail
        exact ⟨⟨k + 1, by omega, by simp, by rw [HS.out, if_pos HT.out]; simp, _, rfl⟩, by simp [intOf]; omega⟩
      · have hB := HB q x false (decide_eq_false hm)
        have HT := Lib.hid hm
        clear HB hm
        go_wp2_with fail
        refine hB.mono ?_
        rintro e w2 ⟨n, rfl, q2, rfl⟩
        go_wp2_with fail
        exact ⟨⟨k + 1, by omega, by simp, by rw [HS.out, if_neg HT.out]; simp, _, rfl⟩, by simp [intOf]; omega⟩
    · obtain rfl : k = X.length := by omega
      have HT := Lib.hid (show (WM.bl X).take X.length = WM.bl X from List.take_of_length_le (by rw [WM.bl_len]; omega))
      rw [HT.out] at *
      go_wp2_with fail
      go_ret
      exact ⟨rfl, q, rfl⟩

/-- the sorted row, each string once -/
def ups (l : List ByteArray) : List ByteArray := WM.compS (WM.sortS l)
theorem ups_bl (l : List ByteArray) : WM.bl (ups l) = WM.ups (WM.bl l) := by
  unfold ups WM.compS WM.sortS
  rw [WM.bl_toB, WM.bl_toB]; rfl
theorem sortNone (w : World) : Calls Try.prog 41 #[.slice none 0 0] w fun e w' => e = .returned (.tuple #[]) ∧ w' = w := Any.slices_Sort_string_none Try.lays190 none 0 w
set_option maxHeartbeats 1000000 in
theorem sortedR_any {w : World} {base : Nat} {v : Value} {l : List ByteArray} (h : OwnS w base v l) (hl : l.length ≤ 1000000000) : Calls Try.prog 32 #[v] w (RowOwn (ups l) w) := by
  rcases h.2 with ⟨rfl, h2⟩ | ⟨g, cap, cur, rfl, hg, hh, hn, hc, hsz, ht⟩
  · have hn : l = [] := List.eq_nil_of_length_eq_zero h2
    subst hn
    have hC := Any.slices_Clone_string_nil Try.lays_2_16 0 0 w
    have hS := sortNone w
    have hP := Any.slices_Compact_string_empty Try.lays194 none 0 w
    go_enter Try.func32, Try.ntmps32
    go_wp2_with fail
    refine hC.mono ?_
    rintro e w1 ⟨rfl, rfl⟩
    go_wp2_with fail
    refine hS.mono ?_
    rintro e w2 ⟨rfl, rfl⟩
    go_wp2_with fail
    refine hP.mono ?_
    rintro e w3 ⟨rfl, rfl⟩
    go_wp2_with fail
    go_ret
    exact ⟨_, rfl, by rw [show ups [] = [] by decide +kernel]; exact OwnS.nil _ _, Below.refl _ _⟩
  · by_cases hne : l = []
    · subst hne
      have hC := Any.slices_Clone_string_zero Try.lays_2_16 ⟨g, 0, none⟩ cap w
      clear h hh ht
      go_enter Try.func32, Try.ntmps32
      go_wp2_with fail
      refine hC.mono ?_
      rintro e w1 ⟨v1, rfl, ho1, _, hb1⟩
      have hO1 : OwnS w1 w.heap.size v1 [] := ho1
      obtain ⟨A1, c1, rfl, _⟩ := hO1.form
      have HO := Lib.hid (And.intro hO1 hb1)
      have hS : Calls Try.prog 41 #[.slice A1 0 c1] w1 fun e w' => e = .returned (.tuple #[]) ∧ w' = w1 := Any.slices_Sort_string_none Try.lays190 A1 c1 w1
      have hP := Any.slices_Compact_string_empty Try.lays194 A1 c1 w1
      clear hC ho1 hO1 hb1
      go_wp2_with fail
      refine hS.mono ?_
      rintro e w2 ⟨rfl, rfl⟩
      go_wp2_with fail
      refine hP.mono ?_
      rintro e w3 ⟨rfl, rfl⟩
      go_wp2_with fail
      go_ret
      exact ⟨_, rfl, by rw [show ups [] = [] by decide +kernel]; exact HO.out.1, HO.out.2⟩
    have hpos : 0 < l.length := List.length_pos_iff.2 hne
    have hC := Any.slices_Clone_string Try.lays_2_16 g 0 l.length cap l w (Nat.le_refl _) (by omega) (fun j hj => by
      rw [Nat.zero_add]
      refine (World.ownsRow.cellAt h j (by omega)).trans ?_
      simp [svs, List.getD_eq_getElem?_getD, List.getElem?_eq_getElem hj])
    rw [List.take_length] at hC
    clear h hh ht
    go_enter Try.func32, Try.ntmps32
    go_wp2_with fail
    refine hC.mono ?_
    rintro e w1 ⟨v1, rfl, ho1, _, hb1⟩
    clear hC
    have hO1 : OwnS w1 w.heap.size v1 l := ho1
    have hS := SortS_any hO1 hpos (by omega)
    have HB := Lib.hid (And.intro hO1 hb1)
    clear ho1 hO1 hb1
    go_wp2_with fail
    refine hS.mono ?_
    rintro e w2 ⟨rfl, ho2, hg2⟩
    clear hS
    have hP := CompS_any ho2 (by rw [WM.sortS_len]; omega)
    have HB2 := Lib.hid (HB.out.2.grown hg2 HB.out.2.size (fun q hq => HB.out.1.base_le q hq))
    clear ho2 hg2
    go_wp2_with fail
    refine hP.mono ?_
    rintro e w3 ⟨v3, rfl, ho3, hg3, _⟩
    go_wp2_with fail
    go_ret
    exact ⟨v3, rfl, ho3, HB2.out.grown hg3 HB2.out.size (fun q hq => HB.out.1.base_le q hq)⟩
end Go.Proofs.Ythgembgincaapaa
