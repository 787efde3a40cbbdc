/- Contracts of strings.Split at one byte, of near.Tokens. -/
import Derived.Test.YtndeifdpiimbeaaGreatDoorWords
import Derived.Test.YtndeifdpiimbeaaGreatDoorPlain
import Derived.Test.YtndeifdpiimbeaaGreatDoorLays
import Derived.Shelf.Strings.Split
namespace Go.Proofs.YtndeifdpiimbeaaGreatDoor
open Go.RowKit

/-- the library's MaxLen holds a number -/
def Mx (w : World) : Prop := (∃ m : Int, w.cell? ⟨0, 0, none⟩ = some (.int .i64 m)) ∧ 0 < w.heap.size
theorem Mx.below {w w' : World} {B : Nat} (h : Mx w) (hb : Below B w w') (hB : 0 < B) : Mx w' := by
  obtain ⟨⟨m, hm⟩, hl⟩ := h
  exact ⟨⟨m, (hb.cell (p := ⟨0, 0, none⟩) hB).trans hm⟩, Nat.lt_of_lt_of_le hl hb.size⟩
theorem Mx.grown {w w' : World} {row : Option Nat} (h : Mx w) (hb : w.grownBy w' row) (hr : row ≠ some 0) : Mx w' := by
  obtain ⟨⟨m, hm⟩, hl⟩ := h
  exact ⟨⟨m, (World.cell?_of_block (a := ⟨0, 0, none⟩) (hb.block _ hl (Ne.symm hr))).trans hm⟩, Nat.lt_of_lt_of_le hl hb.size⟩
/-- a new row of strings, in a block of its own -/
def SplitAt (l : List ByteArray) (w : World) (e : Ending) (w' : World) : Prop := ∃ g, e = .returned (.slice (some ⟨g, 0, none⟩) l.length l.length) ∧ w.heap.size ≤ g ∧ g < w'.heap.size ∧ (∀ j x, l[j]? = some x → w'.cell? ⟨g, j, none⟩ = some (.string x)) ∧ Below w.heap.size w w'
theorem Split_any (c : UInt8) (s : ByteArray) (hs : s.size < 4294967281) (w : World) (hm : Mx w) : Calls Tryz.prog 48 #[.string s, .string ⟨#[c]⟩] w (SplitAt (WM.pieces c s) w) := by
  obtain ⟨⟨m, hm⟩, _⟩ := hm
  refine (Any.strings_Split Tryz.lays146 info_str s ⟨#[c]⟩ m w hs hm (by show 1 ≤ 1; omega)).mono ?_
  have hlen : (WM.pieces c s).length = Lib.countB s ⟨#[c]⟩ + 1 := Lib.splitB_all ⟨#[c]⟩ (by show 1 ≤ 1; omega) 0 _ s rfl
  rintro e w' ⟨rfl, rfl⟩
  refine ⟨w.heap.size, by rw [hlen], Nat.le_refl _, by simp, fun j x hx => ?_, (Below.refl _ _).alloc (Nat.le_refl _) _⟩
  refine (cell_of_row _ _ j _ _ _ (heap_alloc_new w _)).trans ?_
  have : (WM.pieces c s).map Value.string = (Lib.splitB ⟨#[c]⟩ 0 (Lib.countB s ⟨#[c]⟩) s).map Value.string := rfl
  rw [← this]
  simp [hx]

theorem tokF_any (w : World) : PredGrows Tryz.prog 55 #[] WM.blankP w := by
  intro W x hx _
  show Calls Tryz.prog 55 #[.int .i32 (x : Nat)] W _
  by_cases h : x = 32
  · subst h
    go_enter Tryz.func55, Tryz.ntmps55
    go_wp2_with fail
    go_ret
    exact ⟨rfl, Below.refl _ _⟩
  · have hd : ((x : Int) == 32) = false := beq_eq_false_iff_ne.2 (by omega)
    have hv : WM.blankP x = false := by simp [WM.blankP, h]
    rw [hv]
    clear hx h
    go_enter Tryz.func55, Tryz.ntmps55
    go_wp2_with fail
    go_ret
    exact ⟨rfl, Below.refl _ _⟩
theorem flds_any (s : ByteArray) (hs : s.size ≤ 4294967296) (w : World) : Calls Tryz.prog 54 #[.string s, .func (.func 55) #[] #[]] w (SplitAt (WM.flds s) w) := by
  refine (Any.strings_FieldsFunc_grows Tryz.lays229 55 #[] (enters_of Tryz.func55 (by kernel_rfl) rfl) WM.blankP s w hs (tokF_any w) info_span info_str).mono ?_
  rw [WM.flds_eq]
  rintro e w' ⟨A, rfl, hA, hown, hb⟩
  refine ⟨A, rfl, hA, (World.ownsRow.lt hown A (by simp [Value.ownBlock])).2, fun j x hx => ?_, hb⟩
  have hj : j < (WM.flds s).length := (List.getElem?_eq_some_iff.1 hx).1
  refine (World.ownsRow.cellAt hown j (by omega)).trans ?_
  simp [hx]
def TkRel (w1 : World) (ls : List ByteArray) (l i : Value) (wr : World) : Prop := ∃ k : Nat, i = .int .i64 k ∧ k ≤ ls.length ∧ OwnS wr w1.heap.size l (WM.toksK ls k) ∧ Below w1.heap.size w1 wr
theorem hnews_of {w : World} {g : Nat} {l : List ByteArray} (h : ∀ j x, l[j]? = some x → w.cell? ⟨g, j, none⟩ = some (.string x)) : ∀ j u, (svs l)[j]? = some u → w.cell? ((⟨g, 0, none⟩ : Addr).add j) = some u := by
  intro j u hu
  have e : (⟨g, 0, none⟩ : Addr).add j = ⟨g, j, none⟩ := by unfold Addr.add; split <;> simp_all
  rw [e]
  simp only [svs, List.getElem?_map, Option.map_eq_some_iff] at hu
  obtain ⟨x, hx, rfl⟩ := hu
  exact h j x hx
set_option maxHeartbeats 1000000 in
theorem Tokens_any (s : ByteArray) (hs : s.size ≤ 1000000000) (w : World) (hm : Mx w) : Calls Tryz.prog 39 #[.string s] w (RowNew (WM.toks s) w) := by
  have hpw := WM.pieces_wt 10 s
  have hkl := fun k (h : k ≤ (WM.pieces 10 s).length) => WM.toksK_le s h
  have hpl : ∀ (k : Nat) (x : ByteArray), (WM.pieces 10 s)[k]? = some x → x.size ≤ 1000000000 := fun k x hx => by
    have h1 := WM.wt_take (WM.pieces 10 s) (k + 1)
    have hk := (List.getElem?_eq_some_iff.1 hx).1
    rw [List.take_succ_eq_append_getElem hk, WM.wt_append] at h1
    have : (WM.pieces 10 s)[k] = x := (List.getElem?_eq_some_iff.1 hx).2
    rw [this] at h1
    simp only [WM.wt] at h1
    omega
  have hS := fun W hm => Split_any 10 s (by omega) W hm
  unfold WM.toks
  generalize WM.pieces 10 s = ls at *
  have HK := Lib.hid hkl
  have HPL := Lib.hid hpl
  have HLL := Lib.hid (show ls.length ≤ 1000000001 by have := WM.wt_len ls; omega)
  clear hkl hpl hpw
  go_enter Tryz.func39, Tryz.ntmps39
  go_wp2_with fail
  refine (hS _ hm).mono ?_
  rintro e w1 ⟨g, rfl, hg1, hg2, hcs, hb1⟩
  clear hS
  go_wp2_with fail
  go_loopw [3, 9] (fun l i wr => TkRel w1 ls l i wr) (fun _ i _ => ls.length - (intOf i).toNat)
  case atStart => exact ⟨0, rfl, Nat.zero_le _, OwnS.nil _ _, Below.refl _ _⟩
  case round =>
    obtain ⟨k, rfl, hk, hown, hbw⟩ := hrel
    have hsz := hbw.size
    have hll := HLL.out
    by_cases hlt : k < ls.length
    · have hx := List.getElem?_eq_getElem hlt
      generalize ls[k] = x at hx
      have hd1 := (hbw.cell (p := ⟨g, k, none⟩) hg2).trans (hcs k x hx)
      have HT := Lib.hid (show WM.toksK ls (k + 1) = WM.toksK ls k ++ (if 0 < k then [WM.nl] else []) ++ WM.flds x by simp [WM.toksK, hx])
      have HH := Lib.hid (And.intro hown hbw)
      have HF := fun W => flds_any x (by have := HPL.out k x hx; omega) W
      have HN := Lib.hid (HK.out (k + 1) hlt)
      clear hx hown hbw hcs
      by_cases h0 : 0 < k
      · have HL1 := Lib.hid (show (WM.toksK ls k).length + 1 ≤ 4000000000000 by have := HN.out; rw [HT.out] at this; simp at this; omega)
        have HL2 := Lib.hid (show (WM.toksK ls k ++ [WM.nl]).length + (WM.flds x).length ≤ 4000000000000 by have := HN.out; rw [HT.out, if_pos h0] at this; simp at this ⊢; omega)
        have HU := Lib.hid (show WM.toksK ls (k + 1) = WM.toksK ls k ++ [WM.nl] ++ WM.flds x by rw [HT.out, if_pos h0])
        clear HT HN
        go_wp2_with (at_builtin; refine app_strs _ rfl (.tmp 16) (.tmp 17) rfl w1.heap.size _ _ rfl (HH.out.1.alloc _) _ 1 [WM.nl] rfl ?_ rfl (lits_cells _ [WM.nl] _) ?d1 ?d2; intro v2 w2 hown2 hg2')
        case d1 => exact HL1.out
        case d2 => simp; omega
        have hb2 : Below w1.heap.size w1 w2 := (HH.out.2.alloc hsz _).grown hg2' (by simp; omega) (fun j hj => HH.out.1.base_le j hj)
        have HM := Lib.hid (And.intro hown2 hb2)
        have hsz2 := hb2.size
        clear hown2 hb2 hg2'
        go_wp2_with fail
        refine (HF _).mono ?_
        rintro e w3 ⟨gf, rfl, hgf1, hgf2, hcf, hb3⟩
        clear HF
        have hb3s := hb3.size
        have HO := Lib.hid (HM.out.1.below hb3 (Nat.le_refl _))
        have HC := Lib.hid (hnews_of hcf)
        clear hcf
        go_wp2_with (at_builtin; refine app_strs _ rfl (.tmp 19) (.tmp 21) rfl w1.heap.size _ _ rfl HO.out _ (WM.flds x).length (WM.flds x) rfl ?_ rfl HC.out HL2.out ?d3; intro v4 w4 hown4 hg4)
        case d3 => omega
        go_wp2_with fail
        exact ⟨⟨k + 1, by simp, by omega, by rw [HU.out]; exact hown4, (HM.out.2.trans (hb3.mono hsz2)).grown hg4 (by omega) (fun j hj => HM.out.1.base_le j hj)⟩, by simp [intOf]; omega⟩
      · have HL2 := Lib.hid (show (WM.toksK ls k).length + (WM.flds x).length ≤ 4000000000000 by have := HN.out; rw [HT.out, if_neg h0] at this; simp at this ⊢; omega)
        have HU := Lib.hid (show WM.toksK ls (k + 1) = WM.toksK ls k ++ WM.flds x by rw [HT.out, if_neg h0, List.append_nil])
        clear HT HN
        go_wp2_with fail
        refine (HF _).mono ?_
        rintro e w3 ⟨gf, rfl, hgf1, hgf2, hcf, hb3⟩
        clear HF
        have hb3s := hb3.size
        have HO := Lib.hid (HH.out.1.below hb3 (Nat.le_refl _))
        have HC := Lib.hid (hnews_of hcf)
        clear hcf
        go_wp2_with (at_builtin; refine app_strs _ rfl (.tmp 19) (.tmp 21) rfl w1.heap.size _ _ rfl HO.out _ (WM.flds x).length (WM.flds x) rfl ?_ rfl HC.out HL2.out ?d3; intro v4 w4 hown4 hg4)
        case d3 => omega
        go_wp2_with fail
        exact ⟨⟨k + 1, by simp, by omega, by rw [HU.out]; exact hown4, (HH.out.2.trans (hb3.mono hsz)).grown hg4 (by omega) (fun j hj => HH.out.1.base_le j hj)⟩, by simp [intOf]; omega⟩
    · obtain rfl : k = ls.length := by omega
      go_wp2_with fail
      go_ret
      exact ⟨_, rfl, hown.less hb1.size, hb1.trans (hbw.mono hb1.size)⟩
end Go.Proofs.YtndeifdpiimbeaaGreatDoor
