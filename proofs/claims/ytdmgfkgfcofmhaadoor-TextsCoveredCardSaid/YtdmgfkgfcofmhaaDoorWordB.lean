/- Contract of shape.WordByte. -/
import Derived.Test.YtdmgfkgfcofmhaaDoorChar
import Derived.Test.YtdmgfkgfcofmhaaDoorPlain
namespace Go.Proofs.YtdmgfkgfcofmhaaDoor
open Go.RowKit

theorem wordB_eq (c : UInt8) : WM.wordB c = (KM.small c || (decide (65 ≤ c.toNat) && decide (c.toNat ≤ 90)) || KM.digit c || decide (128 ≤ c.toNat)) := by
  revert c; apply WM.all_u8; decide +kernel
set_option maxHeartbeats 400000 in
theorem WordByte_any (c : UInt8) (b : Bool) (hb : WM.wordB c = b) (w : World) : Calls Tryd.prog 55 #[.int .u8 c.toNat] w (SaysBo b w) := by
  rw [wordB_eq] at hb
  cases hs : KM.small c
  · have hS := small_any c false hs
    cases hd : KM.digit c
    · have hD := digit_any c false hd
      rw [hs, hd] at hb
      by_cases h1 : 65 ≤ c.toNat
      · by_cases h2 : c.toNat ≤ 90
        · skip
          go_enter Tryd.func55, Tryd.ntmps55
          go_wp2_with fail
          refine (hS _).mono ?_
          rintro e w' ⟨rfl, n, rfl⟩
          go_wp2_with fail
          go_ret
          exact saysb_of (by rw [← hb]; simp [h1, h2]; try omega)
        · by_cases h3 : 128 ≤ c.toNat
          · skip
            go_enter Tryd.func55, Tryd.ntmps55
            go_wp2_with fail
            refine (hS _).mono ?_
            rintro e w' ⟨rfl, n, rfl⟩
            go_wp2_with fail
            refine (hD _).mono ?_
            rintro e w' ⟨rfl, m, rfl⟩
            go_wp2_with fail
            go_ret
            exact saysb_of (by rw [← hb]; simp [h1, h2, h3]; try omega)
          · skip
            go_enter Tryd.func55, Tryd.ntmps55
            go_wp2_with fail
            refine (hS _).mono ?_
            rintro e w' ⟨rfl, n, rfl⟩
            go_wp2_with fail
            refine (hD _).mono ?_
            rintro e w' ⟨rfl, m, rfl⟩
            go_wp2_with fail
            go_ret
            exact saysb_of (by rw [← hb]; simp [h1, h2, h3]; try omega)
      · have h3 : ¬ 128 ≤ c.toNat := by omega
        go_enter Tryd.func55, Tryd.ntmps55
        go_wp2_with fail
        refine (hS _).mono ?_
        rintro e w' ⟨rfl, n, rfl⟩
        go_wp2_with fail
        refine (hD _).mono ?_
        rintro e w' ⟨rfl, m, rfl⟩
        go_wp2_with fail
        go_ret
        exact saysb_of (by rw [← hb]; simp [h1, h3]; try omega)
    · have hD := digit_any c true hd
      rw [hs, hd] at hb
      by_cases h1 : 65 ≤ c.toNat
      · exfalso; simp [KM.digit] at hd; omega
      · skip
        go_enter Tryd.func55, Tryd.ntmps55
        go_wp2_with fail
        refine (hS _).mono ?_
        rintro e w' ⟨rfl, n, rfl⟩
        go_wp2_with fail
        refine (hD _).mono ?_
        rintro e w' ⟨rfl, m, rfl⟩
        go_wp2_with fail
        go_ret
        exact saysb_of (by rw [← hb]; simp)
  · have hS := small_any c true hs
    rw [hs] at hb
    go_enter Tryd.func55, Tryd.ntmps55
    go_wp2_with fail
    refine (hS _).mono ?_
    rintro e w' ⟨rfl, n, rfl⟩
    go_wp2_with fail
    go_ret
    exact saysb_of (by rw [← hb]; simp)
end Go.Proofs.YtdmgfkgfcofmhaaDoor
