/- The law WordsRead. -/
import Derived.Test.YtfdoecabkodnjaaDoorShing
import Derived.Test.YtfdoecabkodnjaaDoorTokensOf
import Derived.Test.YtfdoecabkodnjaaDoorWordsOf
import Derived.Test.YtfdoecabkodnjaaDoorProse
namespace Go.Proofs.YtfdoecabkodnjaaDoor
open Go.RowKit

/-- a slice of ints below block B -/
def Ints (w : World) (B : Nat) (A : Option Addr) (n : Nat) : Prop := n ≤ 9223372036854775807 ∧ (0 < n → ∃ b off, A = some ⟨b, off, none⟩ ∧ b < B ∧ ∀ i, i < n → ∃ z, w.cell? ⟨b, off + i, none⟩ = some (.int .i64 z) ∧ -9223372036854775808 ≤ z ∧ z ≤ 9223372036854775807)
theorem Ints.strm {w : World} {A : Option Addr} {n cap : Nat} (h : Ints w w.heap.size A n) : Strm (w.alloc (.cells #[.slice A n cap, .int .i64 0] 25)) w.heap.size w.heap.size 0 := by
  refine ⟨A, n, cap, heap_alloc_new w _, Nat.le_refl _, h.1, fun hn => ?_⟩
  obtain ⟨b, off, e, hb, hc⟩ := h.2 hn
  refine ⟨b, off, e, hb, fun i hi => ?_⟩
  obtain ⟨z, hz, hz'⟩ := hc i hi
  exact ⟨z, (World.cell?_of_block (w := w) (a := ⟨b, off + i, none⟩) (Below.heap_alloc w _ b hb)).trans hz, hz'⟩

def WrRel (w2 : World) (i : Value) (wr : World) : Prop := ∃ k : Nat, i = .int .i64 k ∧ k ≤ 2 ∧ Below w2.heap.size w2 wr
theorem join_small {t : ByteArray} (h : t.size ≤ 1048576) : (WM.joinT (WM.toks t)).length ≤ 1000000000000 := by
  have h1 := WM.joinT_wt (WM.toks t)
  have h2 := WM.toks_wt t
  omega
set_option maxHeartbeats 4000000 in
theorem WordsRead_any (A : Option Addr) (n cap : Nat) (text : ByteArray) (w : World) (hl : Ints w w.heap.size A n) (ht : text.size ≤ 1048576) (hm : Mx w) (hmb : 0 < w.heap.size) :
    Calls Tryd.prog 3 #[.slice A n cap, .string text] w (SaysT w) := by
  have hst := hl.strm (cap := cap)
  have HM := Lib.hid (And.intro hm (And.intro hmb hl))
  have HT := Lib.hid ht
  clear hm hmb hl ht
  go_enter Tryd.func3, Tryd.ntmps3
  go_wp2_with fail
  refine (Prose_any 15 (by omega) (by omega) w.heap.size w.heap.size 0 (by omega) _ hst).mono ?_
  rintro e w1 ⟨p, hp, rfl, _, hg1⟩
  have hb1 : Below w.heap.size w w1 := ((Below.refl _ _).alloc (Nat.le_refl _) _).grown hg1 (by simp) (fun k hk => by injection hk with hk; omega)
  have HB := Lib.hid (And.intro hb1 (And.intro (HM.out.1.below hb1 HM.out.2.1) (Nat.lt_of_lt_of_le HM.out.2.1 hb1.size)))
  have HP := Lib.hid (show p.size ≤ 1048576 by omega)
  clear hst hg1 hb1 hp
  go_wp2_with fail
  obtain ⟨w2, hw2⟩ : ∃ w2, w1.alloc (.cells #[.string p, .string text] 9) = w2 := ⟨_, rfl⟩
  have hc0 : w2.cell? ⟨w1.heap.size, 0, none⟩ = some (.string p) := by rw [← hw2, cell_of_row _ _ 0 _ _ _ (heap_alloc_new w1 _)]; rfl
  have hc1 : w2.cell? ⟨w1.heap.size, 1, none⟩ = some (.string text) := by rw [← hw2, cell_of_row _ _ 1 _ _ _ (heap_alloc_new w1 _)]; rfl
  have hlt2 : w1.heap.size < w2.heap.size := by rw [← hw2]; simp
  have hb2 : Below w.heap.size w w2 := by rw [← hw2]; exact HB.out.1.alloc HB.out.1.size _
  have HX := Lib.hid (And.intro (HM.out.1.below hb2 HM.out.2.1) (And.intro (Nat.lt_of_lt_of_le HM.out.2.1 hb2.size) hb2))
  rw [hw2]
  clear hb2 HB hw2
  go_loopw [17] (fun i wr => WrRel w2 i wr) (fun i _ => (2 - (intOf i).toNat))
  case atStart => exact ⟨0, rfl, by omega, Below.refl _ _⟩
  case round =>
    obtain ⟨k, rfl, hk, hbw⟩ := hrel
    have hsz := hbw.size
    by_cases hlt : k < 2
    · obtain ⟨t, hct, hts⟩ : ∃ t, wr.cell? ⟨w1.heap.size, k, none⟩ = some (.string t) ∧ t.size ≤ 1048576 := by
        rcases (show k = 0 ∨ k = 1 by omega) with rfl | rfl
        · exact ⟨p, (hbw.cell (p := ⟨w1.heap.size, 0, none⟩) hlt2).trans hc0, HP.out⟩
        · exact ⟨text, (hbw.cell (p := ⟨w1.heap.size, 1, none⟩) hlt2).trans hc1, HT.out⟩
      have hM := HX.out.1.below hbw HX.out.2.1
      have HW := Lib.hid (And.intro hbw (And.intro hM hts))
      have hTk := Tokens_any t (by omega) wr hM
      clear hM hbw hc0 hc1 hlt2
      go_wp2_with fail
      refine hTk.mono ?_
      rintro e w3 ⟨v0, rfl, ho0, hb3⟩
      clear hTk
      have H3 := Lib.hid (And.intro ho0 (And.intro hb3 (HW.out.1.trans (hb3.mono hsz))))
      clear ho0 hb3
      go_wp2_with fail
      refine (Words_any t (by have := HW.out.2.2; omega) _).mono ?_
      rintro e w4 ⟨v1, rfl, ho1, hb4⟩
      have H4 := Lib.hid (And.intro ho1 hb4)
      clear ho1 hb4
      go_wp2_with fail
      refine (WordsOf_any t (by have := HW.out.2.2; omega) _).mono ?_
      rintro e w5 ⟨v2, rfl, ho2, hb5⟩
      have hE1 := EqualS_any (H4.out.1.below hb5 (Nat.le_refl _)) ho2 true (by simp)
      have H5 := Lib.hid (And.intro ho2 (And.intro hb5 (H4.out.2.trans (hb5.mono H4.out.2.size))))
      clear ho2 hb5
      go_wp2_with fail
      refine hE1.mono ?_
      rintro e w6 ⟨rfl, n6, rfl⟩
      clear hE1
      have hb36 : Below w3.heap.size w3 (w5.drewN n6) := below_drewN H5.out.2.2 n6
      have hb26 := H3.out.2.2.trans (hb36.mono H3.out.2.2.size)
      have hTO := TokensOf_any t (by have := HW.out.2.2; omega) _ (HX.out.1.below hb26 HX.out.2.1) (Nat.lt_of_lt_of_le HX.out.2.1 hb26.size)
      have H6 := Lib.hid (And.intro hb36 hb26)
      clear hb36 hb26
      go_wp2_with fail
      refine hTO.mono ?_
      rintro e w7 ⟨v3, rfl, ho3, hb7⟩
      clear hTO
      have hb37 := H6.out.1.trans (hb7.mono H6.out.1.size)
      have ho07 := H3.out.1.below hb37 (Nat.le_refl _)
      have hE2 := EqualS_any ho07 ho3 true (by simp)
      have H7 := Lib.hid (And.intro hb37 (And.intro ho07 (H6.out.2.trans (hb7.mono H6.out.2.size))))
      clear ho3 hb7 hb37 ho07
      go_wp2_with fail
      refine hE2.mono ?_
      rintro e w8 ⟨rfl, n8, rfl⟩
      clear hE2
      have hJ := Join_any _ _ _ _ (H7.out.2.1.drewN n8) (join_small HW.out.2.2)
      have hb28 : Below w2.heap.size w2 (w7.drewN n8) := below_drewN H7.out.2.2 n8
      have H8 := Lib.hid hb28
      clear hb28
      go_wp2_with fail
      refine hJ.mono ?_
      rintro e w9 ⟨rfl, hb9⟩
      clear hJ
      have hb29 := H8.out.trans (hb9.mono H8.out.size)
      have hTO := TokensOf_any t (by have := HW.out.2.2; omega) _ (HX.out.1.below hb29 HX.out.2.1) (Nat.lt_of_lt_of_le HX.out.2.1 hb29.size)
      have H9 := Lib.hid hb29
      clear hb29 hb9
      go_wp2_with fail
      refine hTO.mono ?_
      rintro e w10 ⟨v4, rfl, ho4, hb10⟩
      clear hTO
      have hJ := JoinOf_any _ _ _ _ ho4 (join_small HW.out.2.2)
      have hb210 := H9.out.trans (hb10.mono H9.out.size)
      have H10 := Lib.hid hb210
      clear hb210 hb10 ho4
      go_wp2_with fail
      refine hJ.mono ?_
      rintro e w11 ⟨rfl, hb11⟩
      clear hJ
      have H11 := Lib.hid (H10.out.trans (hb11.mono H10.out.size))
      clear hb11
      go_wp2_with fail
      exact ⟨⟨k + 1, by simp, by omega, H11.out⟩, by simp [intOf]; omega⟩
    · have hN := nears_any wr
      have HW := Lib.hid (HX.out.2.2.trans (hbw.mono HX.out.2.2.size))
      clear hbw hc0 hc1 hlt2
      go_wp2_with fail
      refine hN.mono ?_
      rintro e w3 ⟨rfl, hb3⟩
      go_wp2_with fail
      go_ret
      exact ⟨rfl, HW.out.trans (hb3.mono HW.out.size)⟩
end Go.Proofs.YtfdoecabkodnjaaDoor
