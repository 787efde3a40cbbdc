/- Contracts of near.divisor, near.part, sets.Shared at strings. -/
import Derived.Test.YthgembgincaapaaRowS
import Derived.Test.YthgembgincaapaaSortS
import Derived.Test.YthgembgincaapaaSetM
import Derived.Deep.QuietTactic
import Derived.BigQuiet
import Derived.RegionTactic
import Derived.IntWalk
namespace WM
/-- n / d in lowest terms; 1 of nothing -/
def frac (n d : Nat) : Nat × Nat := if d = 0 then (1, 1) else (n / Nat.gcd n d, d / Nat.gcd n d)
end WM
namespace Go.Proofs.Ythgembgincaapaa
open Go.RowKit

def fracV (p : Nat × Nat) : Value := .agg #[.int .i64 p.1, .int .i64 p.2]
def DvRel (a b : Nat) (x y : Value) : Prop := ∃ m n : Nat, x = .int .i64 m ∧ y = .int .i64 n ∧ Nat.gcd m n = Nat.gcd a b ∧ m ≤ 1000000000000 ∧ n ≤ 1000000000000
theorem divisor_any (a b : Nat) (ha : a ≤ 1000000000000) (hb : b ≤ 1000000000000) (w : World) :
    Calls Try.prog 43 #[.int .i64 a, .int .i64 b] w fun e w' => e = .returned (.int .i64 (Nat.gcd a b : Nat)) ∧ w = w' := by
  go_enter Try.func43, Try.ntmps43
  go_wp2_with fail
  go_loop [0, 1] (fun x y => DvRel a b x y) (fun x _ => (intOf x).toNat)
  case atStart => exact ⟨a, b, rfl, rfl, rfl, ha, hb⟩
  case round =>
    obtain ⟨m, n, rfl, rfl, hg, hm, hn⟩ := hrel
    have HG := Lib.hid hg
    clear hg ha hb
    by_cases h0 : 0 < m
    · have hmod : n % m < m := Nat.mod_lt _ h0
      have e1 : IntKind.i64.wrap ((n : Int).tmod (m : Int)) = ((n % m : Nat) : Int) := by
        rw [Int.tmod_eq_emod_of_nonneg (by omega), ← Int.natCast_emod]
        exact IntWalk.i64_in _ ⟨by omega, by omega⟩
      go_wp2_with fail
      exact ⟨⟨n % m, m, by simp, rfl, by rw [← HG.out, Nat.gcd_rec m n], by omega, hm⟩, by simp [intOf]; omega⟩
    · obtain rfl : m = 0 := by omega
      go_wp2_with fail
      go_ret
      exact ⟨by show Ending.returned (.int .i64 (n : Nat)) = _; rw [← HG.out, Nat.gcd_zero_left], rfl⟩
/-- a fraction is answered; what lay, lies -/
def FracSays (p : Nat × Nat) (w : World) (e : Ending) (w' : World) : Prop := e = .returned (fracV p) ∧ Below w.heap.size w w'
set_option maxHeartbeats 1000000 in
theorem part_any (n d : Nat) (hn : n ≤ 1000000000) (hd : d ≤ 1000000000) (w : World) :
    Calls Try.prog 28 #[.int .i64 n, .int .i64 d] w (FracSays (WM.frac n d) w) := by
  by_cases h0 : d = 0
  · subst h0
    have hz : (((0 : Nat) : Int) == 0) = true := rfl
    go_enter Try.func28, Try.ntmps28
    go_wp2_with fail
    exact bodyPost_ret (v := .agg #[.int .i64 1, .int .i64 1]) (by simp [results, Try.results28, go_sem]) rfl ⟨rfl, ((Below.refl _ _).alloc (Nat.le_refl _) _)⟩
  · have hz : ((d : Int) == 0) = false := beq_eq_false_iff_ne.2 (by omega)
    have hD := divisor_any n d (by omega) (by omega)
    have hgp : 0 < Nat.gcd n d := Nat.gcd_pos_of_pos_right n (by omega)
    have HF := Lib.hid (show WM.frac n d = (n / Nat.gcd n d, d / Nat.gcd n d) by unfold WM.frac; rw [if_neg h0])
    rw [HF.out]
    generalize Nat.gcd n d = g at *
    clear HF
    have hg0 : ((g : Int) == 0) = false := beq_eq_false_iff_ne.2 (by omega)
    have hg1 : ¬ (g : Int) = 0 := by omega
    have hq1 : n / g ≤ n := Nat.div_le_self _ _
    have hq2 : d / g ≤ d := Nat.div_le_self _ _
    have e1 : wrap64 ((n : Int) / (g : Int)) = (n : Int) / (g : Int) := by
      rw [← Int.natCast_ediv]
      generalize n / g = x at hq1 ⊢
      exact IntWalk.wrap64_in _ ⟨by omega, by omega⟩
    have e2 : wrap64 ((d : Int) / (g : Int)) = (d : Int) / (g : Int) := by
      rw [← Int.natCast_ediv]
      generalize d / g = x at hq2 ⊢
      exact IntWalk.wrap64_in _ ⟨by omega, by omega⟩
    clear hq1 hq2 h0 hgp
    go_enter Try.func28, Try.ntmps28
    go_wp2_with fail
    refine (hD _).mono ?_
    rintro e w1 ⟨rfl, rfl⟩
    clear hD
    go_wp2_with fail
    go_region
    all_goals go_wp2_with fail
    all_goals refine bodyPost_ret (v := .agg #[.int .i64 ((n / g : Nat) : Int), .int .i64 ((d / g : Nat) : Int)]) (by simp [results, Try.results28, go_sem, e1, e2]) rfl ⟨rfl, ?_⟩
    all_goals exact ((Below.refl _ _).alloc (Nat.le_refl _) _).drew

/-- a number is answered; only the draws have moved -/
def SaysI (n : Nat) (w : World) (e : Ending) (w' : World) : Prop := e = .returned (.int .i64 n) ∧ ∃ q, w' = w.drewN q
def ShdRel (w : World) (X Y : List ByteArray) (m i j : Value) (wr : World) : Prop := ∃ (k a b : Nat), m = .int .i64 k ∧ i = .int .i64 a ∧ j = .int .i64 b ∧ a ≤ X.length ∧ b ≤ Y.length ∧ k ≤ a ∧ k + WM.cnt ((WM.bl X).drop a) ((WM.bl Y).drop b) = WM.cnt (WM.bl X) (WM.bl Y) ∧ ∃ q, wr = w.drewN q
theorem bl_drop {X : List ByteArray} {i : Nat} {x : ByteArray} (h : X[i]? = some x) : (WM.bl X).drop i = x.toList :: (WM.bl X).drop (i + 1) := by
  have e : x.toList = x.data.toList := ByteArray.toList_eq x
  obtain ⟨hi, rfl⟩ := List.getElem?_eq_some_iff.1 h
  rw [List.drop_eq_getElem_cons (by rw [WM.bl_len]; exact hi), e]
  simp [WM.bl]
set_option maxHeartbeats 4000000 in
theorem Shared_any {w : World} {b1 b2 : Nat} {v1 v2 : Value} {X Y : List ByteArray} (h1 : OwnS w b1 v1 X) (h2 : OwnS w b2 v2 Y) (hX : WM.Asc (WM.bl X)) (hY : WM.Asc (WM.bl Y)) :
    Calls Try.prog 29 #[v1, v2] w (SaysI (WM.cnt (WM.bl X) (WM.bl Y)) w) := by
  obtain ⟨A1, c1, rfl, hf1⟩ := h1.form
  obtain ⟨A2, c2, rfl, hf2⟩ := h2.form
  have hl1 := h1.len_le
  have hl2 := h2.len_le
  go_enter Try.func29, Try.ntmps29
  go_wp2_with fail
  go_loopw [5, 6, 7] (fun m i j wr => ShdRel w X Y m i j wr) (fun _ i j _ => X.length + Y.length - ((intOf i).toNat + (intOf j).toNat))
  case atStart => exact ⟨0, 0, 0, rfl, rfl, rfl, by omega, by omega, by omega, by simp, 0, rfl⟩
  case round =>
    obtain ⟨k, a, b, rfl, rfl, rfl, ha, hb, hka, hcnt, q, hq⟩ := hrel
    by_cases hA : a < X.length
    · by_cases hB : b < Y.length
      · obtain ⟨g1, rfl, _, _, hc1⟩ := hf1 (by omega)
        obtain ⟨g2, rfl, _, _, hc2⟩ := hf2 (by omega)
        have hx := List.getElem?_eq_getElem hA
        have hy := List.getElem?_eq_getElem hB
        generalize X[a] = x at hx
        generalize Y[b] = y at hy
        have hcx : wr.cell? ⟨g1, a, none⟩ = some (.string x) := by rw [hq]; exact hc1 a x hx
        have hcy : wr.cell? ⟨g2, b, none⟩ = some (.string y) := by rw [hq]; exact hc2 b y hy
        have HQ := Lib.hid hq
        clear hq
        have ex := bl_drop hx
        have ey := bl_drop hy
        have aX : WM.Asc (x.toList :: (WM.bl X).drop (a + 1)) := by rw [← ex]; exact hX.drop
        have aY : WM.Asc (y.toList :: (WM.bl Y).drop (b + 1)) := by rw [← ey]; exact hY.drop
        rw [ex, ey] at hcnt
        have HC := Lib.hid (And.intro hcnt (And.intro aX (And.intro aY (And.intro ex ey))))
        clear hx hy hc1 hc2 hcnt aX aY ex ey hf1 hf2 hX hY h1 h2
        have hA' : (a : Int) < (X.length : Int) := by omega
        have hB' : (b : Int) < (Y.length : Int) := by omega
        by_cases hlt : x.toList < y.toList
        · have q1 : Op.bytesLess x.toList y.toList = true := by rw [LX.less_eq]; exact decide_eq_true hlt
          have HR := Lib.hid (show k + WM.cnt ((WM.bl X).drop (a + 1)) ((WM.bl Y).drop b) = WM.cnt (WM.bl X) (WM.bl Y) by
            rw [HC.out.2.2.2.2, ← WM.cnt_lt HC.out.2.2.1 hlt]; exact HC.out.1)
          clear hlt
          go_wp2_with fail
          go_quiet (fail)
          go_wp2_with fail
          exact ⟨⟨k, a + 1, b, rfl, by simp, rfl, by omega, by omega, by omega, HR.out, _, by rw [HQ.out, World.drewN_drewN]⟩, by simp [intOf]; omega⟩
        · have q1 : Op.bytesLess x.toList y.toList = false := by rw [LX.less_eq]; exact decide_eq_false hlt
          by_cases hgt : y.toList < x.toList
          · have q2 : (x.toList == y.toList) = false := beq_eq_false_iff_ne.2 (LX.ne hgt).symm
            have HR := Lib.hid (show k + WM.cnt ((WM.bl X).drop a) ((WM.bl Y).drop (b + 1)) = WM.cnt (WM.bl X) (WM.bl Y) by
              rw [HC.out.2.2.2.1, ← WM.cnt_gt HC.out.2.1 hgt]; exact HC.out.1)
            clear hlt hgt
            go_wp2_with fail
            go_quiet (fail)
            have hcx2 : (wr.drewN nq).cell? ⟨g1, a, none⟩ = some (.string x) := hcx
            have hcy2 : (wr.drewN nq).cell? ⟨g2, b, none⟩ = some (.string y) := hcy
            have HQ2 := Lib.hid (show wr.drewN nq = w.drewN (q + nq) by rw [HQ.out, World.drewN_drewN])
            clear hcx hcy
            generalize wr.drewN nq = W1 at *
            go_wp2_with fail
            go_quiet (fail)
            go_wp2_with fail
            exact ⟨⟨k, a, b + 1, rfl, rfl, by simp, by omega, by omega, by omega, HR.out, _, by rw [HQ2.out, World.drewN_drewN]⟩, by simp [intOf]; omega⟩
          · skip
            have exy : x.toList = y.toList := by
              rcases LX.tri x.toList y.toList with h | h | h
              · exact absurd h hlt
              · exact h
              · exact absurd h hgt
            have q2 : (x.toList == y.toList) = true := beq_iff_eq.2 exy
            have HR := Lib.hid (show (k + 1) + WM.cnt ((WM.bl X).drop (a + 1)) ((WM.bl Y).drop (b + 1)) = WM.cnt (WM.bl X) (WM.bl Y) by
              have := HC.out.1
              rw [← exy, WM.cnt_eq HC.out.2.1] at this
              omega)
            clear hlt hgt exy
            go_wp2_with fail
            go_quiet (fail)
            have hcx2 : (wr.drewN nq).cell? ⟨g1, a, none⟩ = some (.string x) := hcx
            have hcy2 : (wr.drewN nq).cell? ⟨g2, b, none⟩ = some (.string y) := hcy
            have HQ2 := Lib.hid (show wr.drewN nq = w.drewN (q + nq) by rw [HQ.out, World.drewN_drewN])
            clear hcx hcy
            generalize wr.drewN nq = W1 at *
            go_wp2_with fail
            go_quiet (fail)
            go_wp2_with fail
            exact ⟨⟨k + 1, a + 1, b + 1, by simp, by simp, by simp, by omega, by omega, by omega, HR.out, _, by rw [HQ2.out, World.drewN_drewN]⟩, by simp [intOf]; omega⟩
      · have hN : (WM.bl Y).drop b = [] := List.drop_eq_nil_of_le (by rw [WM.bl_len]; omega)
        rw [hN, WM.cnt_nil', Nat.add_zero] at hcnt
        have HC := Lib.hid hcnt
        have HQ := Lib.hid hq
        clear hcnt hN hq
        go_wp2_with fail
        go_ret
        exact ⟨by show Ending.returned (.int .i64 (k : Nat)) = _; rw [← HC.out], _, HQ.out⟩
    · have hN : (WM.bl X).drop a = [] := List.drop_eq_nil_of_le (by rw [WM.bl_len]; omega)
      rw [hN, WM.cnt_nil, Nat.add_zero] at hcnt
      have HC := Lib.hid hcnt
      have HQ := Lib.hid hq
      clear hcnt hN hq
      go_wp2_with fail
      go_ret
      exact ⟨by show Ending.returned (.int .i64 (k : Nat)) = _; rw [← HC.out], _, HQ.out⟩
end Go.Proofs.Ythgembgincaapaa
