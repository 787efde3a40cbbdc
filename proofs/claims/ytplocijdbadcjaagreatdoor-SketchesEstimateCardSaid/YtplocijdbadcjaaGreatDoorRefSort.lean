/- Contract of the reference's sorted. -/
import Derived.Test.YtplocijdbadcjaaGreatDoorSortS
import Derived.Test.YtplocijdbadcjaaGreatDoorSetM
import Derived.Test.YtplocijdbadcjaaGreatDoorLays
import Derived.Shelf.Slices.Clone
import Derived.Shelf.Slices.In.SortNone
namespace Go.Proofs.YtplocijdbadcjaaGreatDoor
open Go.RowKit

/-- the sorted row, each string once -/
def ups (l : List ByteArray) : List ByteArray := WM.compS (WM.sortS l)
theorem ups_bl (l : List ByteArray) : WM.bl (ups l) = WM.ups (WM.bl l) := by
  unfold ups WM.compS WM.sortS
  rw [WM.bl_toB, WM.bl_toB]; rfl
theorem sortNone (w : World) : Calls Tryz.prog 49 #[.slice none 0 0] w fun e w' => e = .returned (.tuple #[]) ∧ w' = w := Any.slices_Sort_string_none Tryz.lays190 none 0 w
set_option maxHeartbeats 1000000 in
theorem sortedR_any {w : World} {base : Nat} {v : Value} {l : List ByteArray} (h : OwnS w base v l) (hl : l.length ≤ 1000000000) : Calls Tryz.prog 40 #[v] w (RowOwn (ups l) w) := by
  rcases h.2 with ⟨rfl, h2⟩ | ⟨g, cap, cur, rfl, hg, hh, hn, hc, hsz, ht⟩
  · have hn : l = [] := List.eq_nil_of_length_eq_zero h2
    subst hn
    have hC := Any.slices_Clone_string_nil Tryz.lays_2_16 0 0 w
    have hS := sortNone w
    have hP := Any.slices_Compact_string_empty Tryz.lays194 none 0 w
    go_enter Tryz.func40, Tryz.ntmps40
    go_wp2_with fail
    refine hC.mono ?_
    rintro e w1 ⟨rfl, rfl⟩
    go_wp2_with fail
    refine hS.mono ?_
    rintro e w2 ⟨rfl, rfl⟩
    go_wp2_with fail
    refine hP.mono ?_
    rintro e w3 ⟨rfl, rfl⟩
    go_wp2_with fail
    go_ret
    exact ⟨_, rfl, by rw [show ups [] = [] by decide +kernel]; exact OwnS.nil _ _, Below.refl _ _⟩
  · by_cases hne : l = []
    · subst hne
      have hC := Any.slices_Clone_string_zero Tryz.lays_2_16 ⟨g, 0, none⟩ cap w
      clear h hh ht
      go_enter Tryz.func40, Tryz.ntmps40
      go_wp2_with fail
      refine hC.mono ?_
      rintro e w1 ⟨v1, rfl, ho1, _, hb1⟩
      have hO1 : OwnS w1 w.heap.size v1 [] := ho1
      obtain ⟨A1, c1, rfl, _⟩ := hO1.form
      have HO := Lib.hid (And.intro hO1 hb1)
      have hS : Calls Tryz.prog 49 #[.slice A1 0 c1] w1 fun e w' => e = .returned (.tuple #[]) ∧ w' = w1 := Any.slices_Sort_string_none Tryz.lays190 A1 c1 w1
      have hP := Any.slices_Compact_string_empty Tryz.lays194 A1 c1 w1
      clear hC ho1 hO1 hb1
      go_wp2_with fail
      refine hS.mono ?_
      rintro e w2 ⟨rfl, rfl⟩
      go_wp2_with fail
      refine hP.mono ?_
      rintro e w3 ⟨rfl, rfl⟩
      go_wp2_with fail
      go_ret
      exact ⟨_, rfl, by rw [show ups [] = [] by decide +kernel]; exact HO.out.1, HO.out.2⟩
    have hpos : 0 < l.length := List.length_pos_iff.2 hne
    have hC := Any.slices_Clone_string Tryz.lays_2_16 g 0 l.length cap l w (Nat.le_refl _) (by omega) (fun j hj => by
      rw [Nat.zero_add]
      refine (World.ownsRow.cellAt h j (by omega)).trans ?_
      simp [svs, List.getD_eq_getElem?_getD, List.getElem?_eq_getElem hj])
    rw [List.take_length] at hC
    clear h hh ht
    go_enter Tryz.func40, Tryz.ntmps40
    go_wp2_with fail
    refine hC.mono ?_
    rintro e w1 ⟨v1, rfl, ho1, _, hb1⟩
    clear hC
    have hO1 : OwnS w1 w.heap.size v1 l := ho1
    have hS := SortS_any hO1 hpos (by omega)
    have HB := Lib.hid (And.intro hO1 hb1)
    clear ho1 hO1 hb1
    go_wp2_with fail
    refine hS.mono ?_
    rintro e w2 ⟨rfl, ho2, hg2⟩
    clear hS
    have hP := CompS_any ho2 (by rw [WM.sortS_len]; omega)
    have HB2 := Lib.hid (HB.out.2.grown hg2 HB.out.2.size (fun q hq => HB.out.1.base_le q hq))
    clear ho2 hg2
    go_wp2_with fail
    refine hP.mono ?_
    rintro e w3 ⟨v3, rfl, ho3, hg3, _⟩
    go_wp2_with fail
    go_ret
    exact ⟨v3, rfl, ho3, HB2.out.grown hg3 HB2.out.size (fun q hq => HB.out.1.base_le q hq)⟩
end Go.Proofs.YtplocijdbadcjaaGreatDoor
