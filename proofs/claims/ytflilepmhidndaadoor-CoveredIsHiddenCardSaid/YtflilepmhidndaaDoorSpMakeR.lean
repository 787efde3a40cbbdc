/- Contract of the maker SpanList: its spans are right. -/
import Derived.Test.YtflilepmhidndaaDoorSpCheck
import Derived.Test.YtflilepmhidndaaDoorPick
import Derived.Test.YtflilepmhidndaaDoorFlip
namespace Go.Proofs.YtflilepmhidndaaDoor
open Go.RowKit

theorem only_grownI {a w w' : World} {g : Nat} {row : Option Nat} (h : a.grownBy w (some g)) (hg : w.grownBy w' row) (hr : ∀ k, row = some k → a.heap.size ≤ k) : a.grownBy w' (some g) :=
  ⟨hg.os.trans h.os, hg.tape.trans h.tape, hg.output.trans h.output, Nat.le_trans h.size hg.size, fun i hi hne => (hg.block i (by have := h.size; omega) (fun e => by have := hr i e.symm; omega)).trans (h.block i hi hne)⟩
/-- a row of spans of the call's own; of what was there only the stream has turned -/
def RightI (z : Int) (L : List (Int × Int)) : Prop := WM.sep L ∧ ∀ s, s ∈ L → 0 ≤ s.1 ∧ s.2 ≤ z
def TookR (z : Int) (m : Nat) (B g k : Nat) (w : World) (e : Ending) (w' : World) : Prop := ∃ v L, e = .returned v ∧ L.length ≤ m ∧ RightI z L ∧ OwnI w' w.heap.size v L ∧ (∃ k', k' ≤ k ∧ Strm w' B g k') ∧ w.grownBy w' (some g)
def SlRelR (z : Int) (n : Nat) (B g k : Nat) (w : World) (o t i : Value) (wr : World) : Prop := ∃ (j a : Nat) (L : List (Int × Int)), i = .int .i64 j ∧ t = .int .i64 a ∧ a ≤ 20 * j ∧ j ≤ n ∧ L.length ≤ j ∧ Hid (RightI z L ∧ ∀ s, s ∈ L → s.2 < a) ∧ OwnI wr w.heap.size o L ∧ (∃ k', k' ≤ k + 2 * j ∧ Strm wr B g k') ∧ w.grownBy wr (some g)
set_option maxHeartbeats 4000000 in
theorem SpanListR_any (z : Int) (hz1 : 0 ≤ z) (hz2 : z ≤ 1000000) (B g k : Nat) (hk : k < 100000000000) (w : World) (hs : Strm w B g k) :
    Calls Tryd.prog 7 #[.pointer (some ⟨g, 0, none⟩), .int .i64 z] w (TookR z 4 B g (k + 20) w) := by
  have hlt := hs.lt
  have hBg := hs.le
  have HK := Lib.hid hk
  go_enter Tryd.func7, Tryd.ntmps7
  go_wp2_with fail
  refine (Next_any _ (by omega) (by omega) B g k (by omega) _ hs).mono ?_
  rintro e w1 ⟨r, hr1, hr2, rfl, hs1, hg1⟩
  obtain ⟨n, rfl⟩ := Int.eq_ofNat_of_zero_le hr1
  have hn4 : n ≤ 4 := by omega
  have HG := Lib.hid (And.intro hs1 hg1)
  clear hs hs1 hg1 hr1 hr2 hk
  go_wp2_with fail
  go_loopw [5, 6, 11] (fun o t i wr => SlRelR z n B g (k + 1) w o t i wr) (fun _ _ i _ => (n - (intOf i).toNat))
  case atStart => exact ⟨0, 0, [], rfl, rfl, by omega, by omega, Nat.le_refl _, Lib.hid ⟨⟨trivial, fun s hs => by cases hs⟩, fun s hs => by cases hs⟩, OwnI.nil _ _, ⟨_, by omega, HG.out.1⟩, HG.out.2⟩
  case round =>
    obtain ⟨j, a, L, rfl, rfl, ha, hj, hl, HRt, ho, ⟨k2, hk2, hs2⟩, hg2⟩ := hrel
    obtain ⟨A, cap, rfl, -, -⟩ := ho.form
    have hkb : k2 < 1000000000000 := by have := HK.out; omega
    by_cases hjn : j < n
    · have hP := pick_new 4 [.int .i64 0, .int .i64 1, .int .i64 2, .int .i64 5] 0 5 3 B g k2 wr hs2 rfl (by omega) (by omega) (by decide) hkb
      have HO := Lib.hid (And.intro ho hg2)
      have HKB := Lib.hid hk2
      clear ho hg2 hs2 hkb hk2
      go_wp2_with fail
      refine hP.mono ?_
      rintro e w3 ⟨x, hx1, hx2, rfl, ⟨k3, hk3, hs3⟩, hg3⟩
      have hkb : k3 < 1000000000000 := by have := HK.out; have := HKB.out; omega
      have hP2 := pick_new 5 [.int .i64 1, .int .i64 1, .int .i64 2, .int .i64 4, .int .i64 9] 1 9 3 B g k3 w3 hs3 rfl (by omega) (by omega) (by decide) hkb
      have HO3 := Lib.hid (And.intro (HO.out.1.grown hg3 (fun q hq => by have := HO.out.1.base_le q hq; intro h; injection h; omega)) (HO.out.2.trans hg3))
      have HKC := Lib.hid hk3
      clear hP hs3 hg3 HO hkb hk3
      go_wp2_with fail
      refine hP2.mono ?_
      rintro e w4 ⟨y, hy1, hy2, rfl, ⟨k4, hk4, hs4⟩, hg4⟩
      have HO4 := Lib.hid (And.intro (HO3.out.1.grown hg4 (fun q hq => by have := HO3.out.1.base_le q hq; intro h; injection h; omega)) (And.intro (HO3.out.2.trans hg4) hs4))
      have HKD := Lib.hid (show k4 ≤ k + 1 + 2 * (j + 1) by have := HKB.out; have := HKC.out; omega)
      clear hP2 hs4 hg4 HO3 hk4
      obtain ⟨f, hf⟩ : ∃ f : Int, (a : Int) + x = f := ⟨_, rfl⟩
      obtain ⟨t, ht⟩ : ∃ t : Nat, f + y = (t : Int) := ⟨(f + y).toNat, by omega⟩
      have ht2 : t + 1 ≤ 20 * (j + 1) := by omega
      have hwsz : w.heap.size ≤ w4.heap.size := HO4.out.2.1.size
      have HL1 := Lib.hid (show L.length ≤ 1000000000000 by omega)
      have HL := Lib.hid hl
      by_cases hgt : z < (t : Int)
      · have HR := Lib.hid (show k4 ≤ k + 20 by have := HKD.out; omega)
        clear hl ha
        go_wp2_with fail
        go_ret
        exact ⟨.slice A L.length cap, L, rfl, by have := HL.out; omega, HRt.out.1, HO4.out.1, ⟨k4, HR.out, HO4.out.2.2⟩, HO4.out.2.1⟩
      · have HN : Hid (RightI z (L ++ [(f, (t : Int))]) ∧ ∀ s, s ∈ L ++ [(f, (t : Int))] → s.2 < ((t + 1 : Nat) : Int)) := Lib.hid (by
          have hR := HRt.out
          refine ⟨⟨WM.sep_snoc hR.1.1 (by dsimp only; omega) fun s hs => by have := hR.2 s hs; dsimp only; omega, fun s hs => ?_⟩, fun s hs => ?_⟩
          · rcases List.mem_append.1 hs with hs | hs
            · exact hR.1.2 s hs
            · rw [List.mem_singleton.1 hs]; dsimp only; omega
          · rcases List.mem_append.1 hs with hs | hs
            · have := hR.2 s hs; omega
            · rw [List.mem_singleton.1 hs]; dsimp only; omega)
        go_wp2_with (at_builtin; refine app_sp _ rfl (.tmp 26) (.tmp 30) rfl w.heap.size _ L rfl (HO4.out.1.alloc _) _ f t rfl ?_ (lits_sp _ f t _) HL1.out ?d2; intro v5 w5 ho5 hg5; have HO5 := Lib.hid (And.intro ho5 hg5); clear ho5 hg5)
        case d2 => first | omega | (simp; omega)
        have hbl := HO4.out.1.base_le
        have hg6 := only_grownI (HO4.out.2.1.trans (only_of_below ((Below.refl w4.heap.size w4).alloc (Nat.le_refl _) _) (some g))) HO5.out.2 hbl
        have hs6 : Strm w5 B g k4 := (HO4.out.2.2.alloc _).grown HO5.out.2 (fun h => by have := hbl g h; omega) (fun q hq => by have := hbl q hq; omega)
        exact ⟨⟨j + 1, t + 1, L ++ [(f, (t : Int))], by simp, by simp, ht2, by omega, by rw [List.length_append]; show L.length + 1 ≤ _; omega, HN, HO5.out.1, ⟨k4, by have := HKD.out; omega, hs6⟩, hg6⟩, by simp [intOf]; omega⟩
    · have HO := Lib.hid (And.intro ho (And.intro hg2 hs2))
      have HR := Lib.hid (show k2 ≤ k + 20 by omega)
      have HL := Lib.hid hl
      clear ho hg2 hs2 hl ha hkb hk2
      go_wp2_with fail
      go_ret
      exact ⟨.slice A L.length cap, L, rfl, by have := HL.out; omega, HRt.out.1, HO.out.1, ⟨k2, HR.out, HO.out.2.2⟩, HO.out.2.1⟩
end Go.Proofs.YtflilepmhidndaaDoor
