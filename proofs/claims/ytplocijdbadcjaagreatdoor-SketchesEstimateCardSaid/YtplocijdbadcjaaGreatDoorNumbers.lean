/- Contract of the maker Numbers. -/
import Derived.Test.YtplocijdbadcjaaGreatDoorNums
import Derived.Test.YtplocijdbadcjaaGreatDoorPick
import Derived.Test.YtplocijdbadcjaaGreatDoorFlip
namespace Go.Proofs.YtplocijdbadcjaaGreatDoor
open Go.RowKit

theorem only_grown {a w w' : World} {g : Nat} {row : Option Nat} (h : a.grownBy w (some g)) (hg : w.grownBy w' row) (hr : ∀ k, row = some k → a.heap.size ≤ k) : a.grownBy w' (some g) :=
  ⟨hg.os.trans h.os, hg.tape.trans h.tape, hg.output.trans h.output, Nat.le_trans h.size hg.size, fun i hi hne => (hg.block i (by have := h.size; omega) (fun e => by have := hr i e.symm; omega)).trans (h.block i hi hne)⟩
theorem grownBy_alloc (w : World) (o : Obj) (row : Option Nat) : w.grownBy (w.alloc o) row := only_of_below ((Below.refl w.heap.size w).alloc (Nat.le_refl _) o) row
/-- a row of numbers of the call's own; of what was there only the stream has turned -/
def TookZ (m : Nat) (B g k : Nat) (w : World) (e : Ending) (w' : World) : Prop := ∃ v l, e = .returned v ∧ l.length ≤ m ∧ OwnZ w' w.heap.size v l ∧ (∃ k', k' ≤ k ∧ Strm w' B g k') ∧ w.grownBy w' (some g)
def NuRel (n : Nat) (B g k : Nat) (w : World) (o i : Value) (wr : World) : Prop := ∃ (j : Nat) (l : List Int), i = .int .i64 j ∧ j ≤ n ∧ l.length = j ∧ OwnZ wr w.heap.size o l ∧ Strm wr B g (k + j) ∧ w.grownBy wr (some g)
set_option maxHeartbeats 4000000 in
theorem Numbers_any (z : Int) (hz1 : -1000000 ≤ z) (hz2 : z ≤ 1000000) (B g k : Nat) (hk : k < 100000000000) (w : World) (hs : Strm w B g k) :
    Calls Tryz.prog 10 #[.pointer (some ⟨g, 0, none⟩), .int .i64 z] w (TookZ 20 B g (k + 20) w) := by
  have hlt := hs.lt
  have hBg := hs.le
  obtain ⟨m, hm⟩ : ∃ m : Int, min (max z 1) 8 = m := ⟨_, rfl⟩
  have hm1 : 1 ≤ m := by omega
  have hm2 : m ≤ 8 := by omega
  go_enter Tryz.func10, Tryz.ntmps10
  go_wp2_with fail
  refine (Next_any _ (by omega) (by omega) B g k (by omega) _ hs).mono ?_
  rintro e w1 ⟨r, hr1, hr2, rfl, hs1, hg1⟩
  obtain ⟨n, rfl⟩ := Int.eq_ofNat_of_zero_le hr1
  have hn9 : n ≤ 9 := by omega
  have HG := Lib.hid (And.intro hs1 hg1)
  clear hs hs1 hg1 hr1 hr2 hm hm1 hm2 hz1 hz2
  go_wp2_with fail
  go_loopw [5, 12] (fun o i wr => NuRel n B g (k + 1) w o i wr) (fun _ i _ => (n - (intOf i).toNat))
  case atStart => exact ⟨0, [], rfl, by omega, rfl, OwnZ.nil _ _, HG.out.1, HG.out.2⟩
  case round =>
    obtain ⟨j, l, rfl, hj, hl, ho, hs2, hg2⟩ := hrel
    have hsz := hg2.size
    by_cases hjn : j < n
    · have HO := Lib.hid (And.intro ho hg2)
      clear ho hg2
      go_wp2_with fail
      refine (Next_any _ (by omega) (by omega) B g _ (by omega) _ hs2).mono ?_
      rintro e w3 ⟨x, hx1, hx2, rfl, hs3, hg3⟩
      have hs3z := hg3.size
      have HO3 := Lib.hid (And.intro (HO.out.1.grown hg3 (fun q hq => by have := HO.out.1.base_le q hq; intro h; injection h; omega)) (And.intro (grownBy_comp HO.out.2 hg3) hs3))
      have HL := Lib.hid (show l.length + 1 ≤ 1000000000000 by omega)
      clear hs2 hs3 hg3 HO hx1 hx2
      go_wp2_with (at_builtin; refine app_int _ rfl (.tmp 14) (.tmp 17) rfl w.heap.size _ l rfl (HO3.out.1.alloc _) _ 1 [x] rfl ?_ rfl (litz_cells _ [x] _) ?d1 ?d2; intro v4 w4 ho4 hg4)
      case d1 => exact HL.out
      case d2 => simp; omega
      have hg5 := only_grown (grownBy_comp HO3.out.2.1 (grownBy_alloc w3 _ (some g))) hg4 (fun q hq => HO3.out.1.base_le q hq)
      have hs5 : Strm w4 B g (k + 1 + j + 1) := (HO3.out.2.2.alloc _).grown hg4 (fun h => by have := HO3.out.1.base_le g h; omega) (fun q hq => by have := HO3.out.1.base_le q hq; omega)
      go_wp2_with fail
      exact ⟨⟨j + 1, l ++ [x], by simp, by omega, by simp; omega, ho4, hs5, hg5⟩, by simp [intOf]; omega⟩
    · skip
      have hS := SortZ_any ho (by omega)
      have HO := Lib.hid (And.intro ho (And.intro hs2 hg2))
      obtain ⟨A, cap, rfl, -⟩ := ho.formC
      have hbl := HO.out.1.base_le
      have HL2 := Lib.hid (show l.length ≤ 9 by omega)
      have HK9 := Lib.hid (show k + 1 + j ≤ k + 10 by omega)
      clear ho hs2 hg2 hn9 hl hsz
      go_wp2_with fail
      refine hS.mono ?_
      rintro e w3 ⟨rfl, ho3, hg3⟩
      have hC := CompZ_any ho3
      have H3 := Lib.hid (And.intro (HO.out.2.1.grown hg3 (fun h => by have := hbl g h; omega) (fun q hq => by have := hbl q hq; omega)) (only_grown HO.out.2.2 hg3 hbl))
      clear hS ho3 hg3
      go_wp2_with fail
      refine hC.mono ?_
      rintro e w4 ⟨v4, rfl, ho4, hg4, hob⟩
      have H4 := Lib.hid (And.intro ho4 (only_grown H3.out.2 hg4 hbl))
      have hs4 := H3.out.1.grown hg4 (fun h => by have := hbl g h; omega) (fun q hq => by have := hbl q hq; omega)
      have hl2 := HL2.out
      have hl4 : (WM.compZ (WM.sortZ l)).length ≤ 9 := by have := WM.compZ_len (WM.sortZ l); rw [WM.sortZ_len] at this; omega
      clear hC ho4 hg4 hob hbl hl2
      have HL4 := Lib.hid hl4
      clear hl4
      generalize WM.compZ (WM.sortZ l) = l4 at *
      have hkj := HK9.out
      go_wp2_with fail
      refine (Flip_any 10 (by omega) (by omega) B g _ (by omega) _ hs4).mono ?_
      rintro e w5 ⟨b, rfl, hs5, hg5⟩
      have H5 := Lib.hid (And.intro (H4.out.1.grown hg5 (fun q hq => by have := H4.out.1.base_le q hq; intro h; injection h; omega)) (grownBy_comp H4.out.2 hg5))
      clear hs4 hg5 H4 H3 HO
      cases b
      · go_wp2_with fail
        go_ret
        exact ⟨v4, l4, rfl, by have := HL4.out; omega, H5.out.1, ⟨_, by omega, hs5⟩, H5.out.2⟩
      · have hP := pick_new 3 [.int .i64 (-1), .int .i64 0, .int .i64 99] (-1) 99 3 B g _ w5 hs5 rfl (by omega) (by omega) (by decide) (by omega)
        clear hs5
        go_wp2_with fail
        refine hP.mono ?_
        rintro e w6 ⟨x, _, _, rfl, ⟨k6, hk6, hs6⟩, hg6⟩
        have hs6z := hg6.size
        have h5z := H5.out.2.size
        have H6 := Lib.hid (And.intro (H5.out.1.grown hg6 (fun q hq => by have := H5.out.1.base_le q hq; intro h; injection h; omega)) (And.intro (grownBy_comp H5.out.2 hg6) hs6))
        have HL := Lib.hid (show l4.length + 1 ≤ 1000000000000 by have := HL4.out; omega)
        clear hP hg6 hs6 H5
        go_wp2_with (at_builtin; refine app_int _ rfl (.tmp 26) (.tmp 30) rfl w.heap.size _ l4 rfl (H6.out.1.alloc _) _ 1 [x] rfl ?_ rfl (litz_cells _ [x] _) ?d1 ?d2; intro v7 w7 ho7 hg7)
        case d1 => exact HL.out
        case d2 => simp; omega
        have hg8 := only_grown (grownBy_comp H6.out.2.1 (grownBy_alloc w6 _ (some g))) hg7 (fun q hq => H6.out.1.base_le q hq)
        have hs8 : Strm w7 B g k6 := (H6.out.2.2.alloc _).grown hg7 (fun h => by have := H6.out.1.base_le g h; omega) (fun q hq => by have := H6.out.1.base_le q hq; omega)
        go_wp2_with fail
        go_ret
        exact ⟨v7, l4 ++ [x], rfl, by have := HL4.out; simp; omega, ho7, ⟨k6, by omega, hs8⟩, hg8⟩
end Go.Proofs.YtplocijdbadcjaaGreatDoor
