/- Contract of Patch, at changes that fit. -/
import Derived.Test.YtmkbfnghkcjogaaDoorReplP
import Derived.Test.YtmkbfnghkcjogaaDoorJoin
import Derived.Test.YtmkbfnghkcjogaaDoorRound
namespace Go.Proofs.YtmkbfnghkcjogaaDoor
open Go.RowKit

/-- changes that fit tokens X, of small size -/
structure OkD (X : List ByteArray) (D : List WM.Chg) : Prop where
  fol : WM.Fol D X.length
  sep : WM.Sep D
  fits : ∀ c, c ∈ D → WM.Fits X c
  toks : ∀ c, c ∈ D → (∀ x, x ∈ c.drop → WM.IsTok x ∧ x.size ≤ 1000000000) ∧ (∀ x, x ∈ c.add → WM.IsTok x ∧ x.size ≤ 1000000000)
  len : D.length ≤ 3000
  add : ∀ c, c ∈ D → c.add.length ≤ 1000000
  rows : ∀ n, n ≤ D.length → (WM.repK WM.added X D n).length ≤ 1000000000
  join : (WM.joinT (WM.rep WM.added X D)).length ≤ 20000
set_option maxHeartbeats 2000000 in
theorem Patch_any (s : ByteArray) (hs : Few s) (D : List WM.Chg) (v : Value) (base : Nat) (w : World) (hm : Mx w) (hD : OwnC w base v D) (hk : OkD (WM.toks s) D) :
    Calls Tryd.prog 7 #[.string s, v] w fun e w' => e = .returned (.tuple #[.string ⟨(WM.joinT (WM.rep WM.added (WM.toks s) D)).toArray⟩, .int .i64 0]) ∧ Below w.heap.size w w' := by
  have hF := fewTokens_any s hs w hm
  obtain ⟨_, la⟩ := hs
  generalize WM.toks s = X at *
  obtain ⟨AD, cD, rfl, _⟩ := hD.rd
  have HD := Lib.hid (And.intro hD (And.intro hk la))
  obtain ⟨S, hS⟩ : ∃ S : ByteArray, (⟨(WM.joinT (WM.rep WM.added X D)).toArray⟩ : ByteArray) = S := ⟨_, rfl⟩
  have hz : S.size ≤ 20000 := by rw [← hS]; show (WM.joinT (WM.rep WM.added X D)).toArray.size ≤ _; rw [List.size_toArray]; exact hk.join
  rw [hS]
  have HS := Lib.hid hS
  clear hD hk la hm hS
  go_enter Tryd.func7, Tryd.ntmps7
  go_wp2_with fail
  refine hF.mono ?_
  rintro e w1 ⟨v1, rfl, ho1, hb1⟩
  obtain ⟨A, cX, rfl, hrd⟩ := ho1.rd
  have hC := checkChanges_any X A cX D _ base w1 hrd ho1.cap_le HD.out.2.2 (HD.out.1.below hb1) HD.out.2.1.fol HD.out.2.1.sep HD.out.2.1.fits HD.out.2.1.len HD.out.2.1.toks
  have H1 := Lib.hid (And.intro ho1 (And.intro hb1 hrd))
  clear hF ho1 hb1 hrd
  go_wp2_with fail
  refine hC.mono ?_
  rintro e w2 ⟨rfl, hb2⟩
  have hR := replace_any X A cX D _ base w2 (Rd.below H1.out.2.2 hb2) H1.out.1.cap_le H1.out.1.cap0 HD.out.2.2 ((HD.out.1.below H1.out.2.1).below hb2) HD.out.2.1.fol HD.out.2.1.len HD.out.2.1.add HD.out.2.1.rows
  have H2 := Lib.hid (H1.out.2.1.trans (hb2.mono H1.out.2.1.size))
  clear hC hb2
  go_wp2_with fail
  refine hR.mono ?_
  rintro e w3 ⟨v3, rfl, ho3, hb3⟩
  have hJ : Calls Tryd.prog 11 #[v3] w3 fun e w' => e = .returned (.string S) ∧ Below w3.heap.size w3 w' := by
    have h := Join_any _ _ _ w3 ho3 (by have := HD.out.2.1.join; omega)
    unfold SaysL at h
    rw [HS.out] at h
    exact h
  have H3 := Lib.hid (H2.out.trans (hb3.mono H2.out.size))
  clear hR ho3 hb3
  go_wp2_with fail
  refine hJ.mono ?_
  rintro e w4 ⟨rfl, hb4⟩
  have H4 := Lib.hid (H3.out.trans (hb4.mono H3.out.size))
  clear hJ hb4
  go_wp2_with fail
  exact bodyPost_ret (v := .tuple #[.string S, .int .i64 0]) (by simp [results, Tryd.results7, go_sem]) rfl ⟨rfl, H4.out⟩
end Go.Proofs.YtmkbfnghkcjogaaDoor
