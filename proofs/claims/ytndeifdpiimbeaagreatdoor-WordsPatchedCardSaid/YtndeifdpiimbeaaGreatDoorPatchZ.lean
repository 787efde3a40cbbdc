/- Contracts of Patch and Turn at any changes. -/
import Derived.Test.YtndeifdpiimbeaaGreatDoorCheckF
import Derived.Test.YtndeifdpiimbeaaGreatDoorReplP
import Derived.Test.YtndeifdpiimbeaaGreatDoorJoin
import Derived.Test.YtndeifdpiimbeaaGreatDoorDiffer0
namespace Go.Proofs.YtndeifdpiimbeaaGreatDoor
open Go.RowKit

/-- changes of small size, of tokens or nearly -/
structure OkZ (D : List WM.ZC) : Prop where
  odd : OddD D
  len : D.length ≤ 3000
  drop : ∀ c, c ∈ D → WM.wt c.drop ≤ 100000
  add : ∀ c, c ∈ D → WM.wt c.add ≤ 100000
theorem OkZ.dropz {D : List WM.ZC} (h : OkZ D) : ∀ c, c ∈ D → c.drop.length ≤ 1000000 := fun c hc => by
  have := WM.wt_len c.drop
  have := h.drop c hc
  omega
theorem RdZ.nat {w : World} {base : Nat} {AD : Option Addr} {D : List WM.ZC} {X : List ByteArray} (h : RdZ w base AD D) (hf : WM.fault X D = 0) : RdN w base AD (D.map WM.ZC.nat) := fun h0 => by
  obtain ⟨g, rfl, hg, hc⟩ := h (by simpa using h0)
  refine ⟨g, rfl, hg, fun W hW n c hx => ?_⟩
  obtain ⟨z, hz, rfl⟩ := WM.nat_at hx
  obtain ⟨A1, c1, A2, c2, k0, k1, k2, o1, o2⟩ := hc W hW n z hz
  have h1 := (WM.one_ok (WM.one_at hf hz)).1.1
  have e : ((z.nat).at_ : Int) = z.at_ := by show ((z.at_.toNat : Nat) : Int) = _; omega
  exact ⟨A1, c1, A2, c2, by rw [e]; exact k0, k1, k2, o1, o2⟩
theorem mem_nat {D : List WM.ZC} {c : WM.Chg} (h : c ∈ D.map WM.ZC.nat) : ∃ z, z ∈ D ∧ c.drop = z.drop ∧ c.add = z.add := by
  obtain ⟨z, hz, rfl⟩ := List.mem_map.1 h
  exact ⟨z, hz, rfl, rfl⟩
theorem rep_longZ (f : WM.Chg → List ByteArray) (T : List ByteArray) (D : List WM.Chg) (M : Nat) (hf : ∀ c, c ∈ D → (f c).length ≤ M) : ∀ n, (WM.repK f T D n).length ≤ n * (T.length + M)
  | 0 => by simp [WM.repK]
  | n + 1 => by
    have ih := rep_longZ f T D M hf n
    have h3 : ((D[n]?.map f).getD []).length ≤ M := by
      cases h : D[n]? with
      | none => simp
      | some c => simpa using hf c (List.mem_of_getElem? h)
    simp only [WM.repK, List.length_append, List.length_take, List.length_drop]
    rw [Nat.add_mul]
    omega
theorem OkZ.addl {D : List WM.ZC} (h : OkZ D) : ∀ c, c ∈ D.map WM.ZC.nat → c.add.length ≤ 100000 := fun c hc => by
  obtain ⟨z, hz, _, e⟩ := mem_nat hc
  have := WM.wt_len z.add
  have := h.add z hz
  rw [e]; omega
theorem OkZ.dropl {D : List WM.ZC} (h : OkZ D) : ∀ c, c ∈ D.map WM.ZC.nat → c.drop.length ≤ 100000 := fun c hc => by
  obtain ⟨z, hz, e, _⟩ := mem_nat hc
  have := WM.wt_len z.drop
  have := h.drop z hz
  rw [e]; omega
theorem mul_le_big {n a b : Nat} (h1 : n ≤ 3000) (h2 : a ≤ b) : n * a ≤ 3000 * b := Nat.mul_le_mul h1 h2
theorem OkZ.rows {D : List WM.ZC} (h : OkZ D) {X : List ByteArray} (hX : X.length ≤ 2000) : ∀ n, n ≤ (D.map WM.ZC.nat).length → (WM.repK WM.added X (D.map WM.ZC.nat) n).length ≤ 306000000 := fun n hn => by
  have h1 := rep_longZ WM.added X (D.map WM.ZC.nat) 100000 (fun c hc => h.addl c hc) n
  rw [List.length_map] at hn
  have h2 := mul_le_big (n := n) (a := X.length + 100000) (b := 102000) (Nat.le_trans hn h.len) (by omega)
  omega
theorem OkZ.join {D : List WM.ZC} (h : OkZ D) {s : ByteArray} (hs : s.size ≤ 20000) : (WM.joinT (WM.rep WM.added (WM.toks s) (D.map WM.ZC.nat))).length ≤ 1000000000 := by
  have h1 := WM.joinT_wt (WM.rep WM.added (WM.toks s) (D.map WM.ZC.nat))
  have h2 := WM.rep_wt WM.added (WM.toks s) (D.map WM.ZC.nat) 100000 (fun c hc => by
    obtain ⟨z, hz, _, e⟩ := mem_nat hc
    show WM.wt c.add ≤ _
    rw [e]; exact h.add z hz) (D.map WM.ZC.nat).length
  have h3 := WM.toks_wt s
  have h4 : WM.wt (WM.rep WM.added (WM.toks s) (D.map WM.ZC.nat)) ≤ WM.wt (WM.repK WM.added (WM.toks s) (D.map WM.ZC.nat) (D.map WM.ZC.nat).length) + WM.wt (WM.toks s) := by
    unfold WM.rep
    rw [WM.wt_append]
    have := WM.wt_append ((WM.toks s).take (WM.aft (D.map WM.ZC.nat) (D.map WM.ZC.nat).length)) ((WM.toks s).drop (WM.aft (D.map WM.ZC.nat) (D.map WM.ZC.nat).length))
    rw [List.take_append_drop] at this
    omega
  have h5 := mul_le_big (n := (D.map WM.ZC.nat).length) (a := WM.wt (WM.toks s) + 100000) (b := 160003) (by rw [List.length_map]; exact h.len) (by omega)
  omega
/-- what Patch answers: what is wrong, or that the result is too long -/
noncomputable def codeP (X : List ByteArray) (D : List WM.ZC) : Int := if WM.fault X D = 0 then (if 20000 < (WM.joinT (WM.rep WM.added X (D.map WM.ZC.nat))).length then 2 else 0) else WM.fault X D
noncomputable def resP (X : List ByteArray) (D : List WM.ZC) : ByteArray := if codeP X D = 0 then ⟨(WM.joinT (WM.rep WM.added X (D.map WM.ZC.nat))).toArray⟩ else ⟨#[]⟩
noncomputable def backP (X : List ByteArray) (D : List WM.ZC) : List WM.Chg := if codeP X D = 0 then WM.backL (D.map WM.ZC.nat) (D.map WM.ZC.nat).length else []
theorem codeP_bad {X : List ByteArray} {D : List WM.ZC} (h : WM.fault X D ≠ 0) : codeP X D = WM.fault X D := by unfold codeP; rw [if_neg h]
theorem codeP_long {X : List ByteArray} {D : List WM.ZC} (h : WM.fault X D = 0) (h2 : 20000 < (WM.joinT (WM.rep WM.added X (D.map WM.ZC.nat))).length) : codeP X D = 2 := by unfold codeP; rw [if_pos h, if_pos h2]
theorem codeP_ok {X : List ByteArray} {D : List WM.ZC} (h : WM.fault X D = 0) (h2 : ¬ 20000 < (WM.joinT (WM.rep WM.added X (D.map WM.ZC.nat))).length) : codeP X D = 0 := by unfold codeP; rw [if_pos h, if_neg h2]
theorem resP_bad {X : List ByteArray} {D : List WM.ZC} (h : codeP X D ≠ 0) : resP X D = ⟨#[]⟩ := by unfold resP; rw [if_neg h]
theorem resP_ok {X : List ByteArray} {D : List WM.ZC} (h : codeP X D = 0) : resP X D = ⟨(WM.joinT (WM.rep WM.added X (D.map WM.ZC.nat))).toArray⟩ := by unfold resP; rw [if_pos h]
theorem backP_bad {X : List ByteArray} {D : List WM.ZC} (h : codeP X D ≠ 0) : backP X D = [] := by unfold backP; rw [if_neg h]
theorem backP_ok {X : List ByteArray} {D : List WM.ZC} (h : codeP X D = 0) : backP X D = WM.backL (D.map WM.ZC.nat) (D.map WM.ZC.nat).length := by unfold backP; rw [if_pos h]
set_option maxHeartbeats 4000000 in
theorem Patch_gen (s : ByteArray) (hs : Few s) (D : List WM.ZC) (AD : Option Addr) (cD : Nat) (base : Nat) (w : World) (hm : Mx w) (hD : RdZ w base AD D) (hk : OkZ D) :
    Calls Tryz.prog 6 #[.string s, .slice AD D.length cD] w fun e w' => e = .returned (.tuple #[.string (resP (WM.toks s) D), .int .i64 (codeP (WM.toks s) D)]) ∧ Below w.heap.size w w' := by
  have hF := fewTokens_any s hs w hm
  obtain ⟨ls, la⟩ := hs
  have hJN := hk.join ls
  generalize WM.toks s = X at *
  have HD := Lib.hid (And.intro hD (And.intro hk (And.intro la hJN)))
  clear hD hk la hm hJN ls
  go_enter Tryz.func6, Tryz.ntmps6
  go_wp2_with fail
  refine hF.mono ?_
  rintro e w1 ⟨v1, rfl, ho1, hb1⟩
  obtain ⟨A, cX, rfl, hrd⟩ := ho1.rd
  have hC := checkChanges_gen X A cX D AD cD base w1 hrd ho1.cap_le HD.out.2.2.1 (HD.out.1.below hb1) HD.out.2.1.len HD.out.2.1.odd HD.out.2.1.dropz
  have H1 := Lib.hid (And.intro ho1 (And.intro hb1 hrd))
  clear hF ho1 hb1 hrd
  go_wp2_with fail
  by_cases hz : WM.fault X D = 0
  · rw [hz] at hC
    have HZ := Lib.hid hz
    clear hz
    refine hC.mono ?_
    rintro e w2 ⟨rfl, hb2⟩
    have hR := replace_rd X A cX (D.map WM.ZC.nat) AD cD base w2 (Rd.below H1.out.2.2 hb2) H1.out.1.cap_le H1.out.1.cap0 HD.out.2.2.1 (((HD.out.1.below H1.out.2.1).below hb2).nat HZ.out) (WM.fol_nat HZ.out) (by rw [List.length_map]; exact HD.out.2.1.len) (fun c hc => Nat.le_trans (HD.out.2.1.addl c hc) (by omega)) (fun n hn => Nat.le_trans (HD.out.2.1.rows HD.out.2.2.1 n hn) (by omega))
    rw [List.length_map] at hR
    have H2 := Lib.hid (H1.out.2.1.trans (hb2.mono H1.out.2.1.size))
    clear hC hb2
    go_wp2_with fail
    refine hR.mono ?_
    rintro e w3 ⟨v3, rfl, ho3, hb3⟩
    obtain ⟨S, hS⟩ : ∃ S : ByteArray, (⟨(WM.joinT (WM.rep WM.added X (D.map WM.ZC.nat))).toArray⟩ : ByteArray) = S := ⟨_, rfl⟩
    have hsz : S.size = (WM.joinT (WM.rep WM.added X (D.map WM.ZC.nat))).length := by rw [← hS]; exact List.size_toArray
    have hJ : Calls Tryz.prog 22 #[v3] w3 fun e w' => e = .returned (.string S) ∧ Below w3.heap.size w3 w' := by
      have h := Join_any _ _ _ w3 ho3 (Nat.le_trans HD.out.2.2.2 (by omega))
      unfold SaysL at h
      rw [hS] at h
      exact h
    have HS := Lib.hid (And.intro hS hsz)
    have H3 := Lib.hid (H2.out.trans (hb3.mono H2.out.size))
    clear hR ho3 hb3 hS hsz
    go_wp2_with fail
    refine hJ.mono ?_
    rintro e w4 ⟨rfl, hb4⟩
    have H4 := Lib.hid (H3.out.trans (hb4.mono H3.out.size))
    clear hJ hb4
    by_cases hlg : 20000 < S.size
    · have HC := Lib.hid (codeP_long HZ.out (by rw [← HS.out.2]; exact hlg))
      go_wp2_with fail
      exact bodyPost_ret (v := .tuple #[.string ⟨#[]⟩, .int .i64 2]) (by simp [results, Tryz.results6, go_sem]) rfl ⟨by rw [HC.out, resP_bad (by rw [HC.out]; omega)], H4.out⟩
    · have HC := Lib.hid (codeP_ok HZ.out (by rw [← HS.out.2]; exact hlg))
      go_wp2_with fail
      exact bodyPost_ret (v := .tuple #[.string S, .int .i64 0]) (by simp [results, Tryz.results6, go_sem]) rfl ⟨by rw [HC.out, resP_ok HC.out, HS.out.1], H4.out⟩
  · have HC := Lib.hid (codeP_bad hz)
    have hz' : (WM.fault X D != 0) = true := bne_iff_ne.2 hz
    obtain ⟨z, hzz⟩ : ∃ z, z = WM.fault X D := ⟨_, rfl⟩
    rw [← hzz] at hC hz' hz
    have HZ := Lib.hid (And.intro hz hzz)
    refine hC.mono ?_
    rintro e w2 ⟨rfl, hb2⟩
    have H2 := Lib.hid (H1.out.2.1.trans (hb2.mono H1.out.2.1.size))
    clear hC hb2 hzz
    go_wp2_with fail
    exact bodyPost_ret (v := .tuple #[.string ⟨#[]⟩, .int .i64 z]) (by simp [results, Tryz.results6, go_sem]) rfl ⟨by rw [HC.out, ← HZ.out.2, resP_bad (by rw [HC.out, ← HZ.out.2]; exact HZ.out.1)], H2.out⟩
end Go.Proofs.YtndeifdpiimbeaaGreatDoor
