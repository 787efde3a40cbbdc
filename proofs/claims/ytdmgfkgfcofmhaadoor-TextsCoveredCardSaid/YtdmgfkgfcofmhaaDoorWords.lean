/- Contracts of near.Words. -/
import Derived.Test.YtdmgfkgfcofmhaaDoorWordB
import Derived.Test.YtdmgfkgfcofmhaaDoorSmall
import Derived.Test.YtdmgfkgfcofmhaaDoorRowS
import Derived.Test.YtdmgfkgfcofmhaaDoorLays
import Derived.Shelf.Strings.FieldsFuncGrows
namespace Go.Proofs.YtdmgfkgfcofmhaaDoor
open Go.RowKit

/-- a row of strings of the call's own is answered; what lay, lies -/
def RowNew (l : List ByteArray) (w : World) (e : Ending) (w' : World) : Prop := ∃ v, e = .returned v ∧ OwnS w' w.heap.size v l ∧ Below w.heap.size w w'

theorem info_span : (Tryd.prog.info? 106).map (fun i => (i.zero, i.size, i.bytes)) = some (some (.agg #[.int .i64 0, .int .i64 0]), 2, 16) := by kernel_rfl

theorem wordsF_low (c : UInt8) (hc : c.toNat < 128) (b : Bool) (hb : WM.wordB c = b) (w : World) : Calls Tryd.prog 60 #[.int .i32 (c.toNat : Nat)] w (SaysBo (!b) w) := by
  have hW := WordByte_any c b hb
  have hd : decide ((c.toNat : Int) < 128) = true := decide_eq_true (by omega)
  have hw : IntKind.u8.wrap (c.toNat : Int) = (c.toNat : Int) := IntWalk.u8_in _ ⟨by omega, by omega⟩
  clear hc hb
  go_enter Tryd.func60, Tryd.ntmps60
  go_wp2_with fail
  refine (hW _).mono ?_
  rintro e w' ⟨rfl, n, rfl⟩
  go_wp2_with fail
  go_ret
  exact saysb_of rfl
theorem wordsF_high (x : Nat) (hx : 128 ≤ x) (hx2 : x ≤ 1114111) (w : World) : Calls Tryd.prog 60 #[.int .i32 (x : Nat)] w (SaysBo false w) := by
  have hd : decide ((x : Int) < 128) = false := decide_eq_false (by omega)
  clear hx hx2
  go_enter Tryd.func60, Tryd.ntmps60
  go_wp2_with fail
  go_ret
  exact saysb_of0 rfl
theorem wordsF_any (w : World) : PredGrows Tryd.prog 60 #[] WM.wordP w := by
  intro W x hx _
  by_cases h : x < 128
  · obtain ⟨c, rfl⟩ : ∃ c : UInt8, x = c.toNat := ⟨UInt8.ofNat x, by simp; omega⟩
    refine (wordsF_low c h _ rfl W).mono ?_
    rintro e w' ⟨rfl, n, rfl⟩
    refine ⟨?_, below_drewNg W n⟩
    simp [WM.wordP, h]
  · refine (wordsF_high x (by omega) hx W).mono ?_
    rintro e w' ⟨rfl, n, rfl⟩
    refine ⟨?_, below_drewNg W n⟩
    simp [WM.wordP, h]

set_option maxHeartbeats 400000 in
theorem Words_any (s : ByteArray) (hs : s.size ≤ 4294967296) (w : World) : Calls Tryd.prog 28 #[.string s] w (RowNew (WM.words s) w) := by
  have hF := fun W => Any.strings_FieldsFunc_grows Tryd.lays229 60 #[] (enters_of Tryd.func60 (by kernel_rfl) rfl) WM.wordP (WM.small s) W (by rw [WM.small_size]; exact hs) (wordsF_any W) info_span info_str
  rw [WM.words_eq] at hF
  go_enter Tryd.func28, Tryd.ntmps28
  go_wp2_with fail
  refine (Small_any s (by omega) _).mono ?_
  rintro e w1 ⟨rfl, hb1⟩
  go_wp2_with fail
  refine (hF _).mono ?_
  rintro e w2 ⟨A, rfl, hA, hown, hb2⟩
  go_wp2_with fail
  go_ret
  exact ⟨_, rfl, OwnS.less (base := w1.heap.size) hown (by have := hb1.size; omega), hb1.trans (hb2.mono hb1.size)⟩
end Go.Proofs.YtdmgfkgfcofmhaaDoor
