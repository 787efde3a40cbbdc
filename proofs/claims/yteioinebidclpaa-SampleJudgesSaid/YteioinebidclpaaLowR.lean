/- Contracts of the reference's Lowest, orOne. -/
import Derived.Test.YteioinebidclpaaBlk
import Derived.IntWalk
import Derived.RegionTactic
namespace SL
/-- what divides both, at least 1 -/
def g (n d : Int) : Int := if Int.gcd n d = 0 then 1 else (Int.gcd n d : Int)
def lowN (n d : Int) : Int := n.tdiv (g n d)
def lowD (n d : Int) : Int := d.tdiv (g n d)
def oneN (n d : Int) : Int := if d = 0 then 1 else lowN n d
def oneD (n d : Int) : Int := if d = 0 then 1 else lowD n d
theorem g_pos (n d : Int) : 1 ≤ g n d := by
  unfold g
  split
  · omega
  · omega
theorem tmod_nat {a b : Int} (hb : b ≠ 0) : (a.tmod b).natAbs < b.natAbs := by
  rw [Int.natAbs_tmod]
  exact Nat.mod_lt _ (by omega)
theorem gcd_step (a b : Int) : Int.gcd b (a.tmod b) = Int.gcd a b := by
  unfold Int.gcd
  rw [Int.natAbs_tmod, Nat.gcd_comm, ← Nat.gcd_rec, Nat.gcd_comm]
theorem tdiv_in (n g : Int) (h : -100000000000000000 ≤ n ∧ n ≤ 100000000000000000) : -100000000000000000 ≤ n.tdiv g ∧ n.tdiv g ≤ 100000000000000000 := by
  have e : (n.tdiv g).natAbs = n.natAbs / g.natAbs := Int.natAbs_tdiv n g
  have h2 : n.natAbs / g.natAbs ≤ n.natAbs := Nat.div_le_self _ _
  omega
theorem gcd_zero (a : Int) : Int.gcd a 0 = a.natAbs := by unfold Int.gcd; simp
end SL
namespace Go.Proofs.Yteioinebidclpaa
open Go.RowKit

def FrSays (a b : Int) (w : World) (e : Ending) (w' : World) : Prop := e = .returned (.agg #[.int .i64 a, .int .i64 b]) ∧ Below w.heap.size w w'
def LwRel (w : World) (n d : Int) (a b : Value) (wr : World) : Prop := ∃ x y : Int, a = .int .i64 x ∧ b = .int .i64 y ∧ -100000000000000000 ≤ x ∧ x ≤ 100000000000000000 ∧ -100000000000000000 ≤ y ∧ y ≤ 100000000000000000 ∧ Hid (Int.gcd x y = Int.gcd n d) ∧ ∃ q, wr = (w.alloc (.cells #[.int .i64 0, .int .i64 0] 31)).drewN q
set_option maxHeartbeats 4000000 in
theorem Lowest_any (n d : Int) (hn : -100000000000000000 ≤ n ∧ n ≤ 100000000000000000) (hd : -100000000000000000 ≤ d ∧ d ≤ 100000000000000000) (w : World) :
    Calls Try.prog 27 #[.int .i64 n, .int .i64 d] w (FrSays (SL.lowN n d) (SL.lowD n d) w) := by
  go_enter Try.func27, Try.ntmps27
  go_wp2_with fail
  go_loopw [5, 6] (fun a b wr => LwRel w n d a b wr) (fun _ b _ => (intOf b).natAbs)
  case atStart => exact ⟨n, d, rfl, rfl, hn.1, hn.2, hd.1, hd.2, rfl, 0, rfl⟩
  case round =>
    obtain ⟨x, y, rfl, rfl, hx1, hx2, hy1, hy2, hg, q, hq⟩ := hrel
    by_cases hy : y = 0
    · subst hy
      have hgx := Lib.hid (show x.natAbs = Int.gcd n d by rw [← hg.out, SL.gcd_zero])
      have hB : Blk wr w.heap.size 31 #[.int .i64 0, .int .i64 0] := by rw [hq]; exact (Blk.new _ _ _).drewN q
      have k0 : wr.cell? ⟨w.heap.size, 0, none⟩ = some (.int .i64 0) := hB.cell 0
      have k1 : wr.cell? ⟨w.heap.size, 1, none⟩ = some (.int .i64 0) := hB.cell 1
      have f0 := hB.frozen 0
      have f1 := hB.frozen 1
      have hW := Lib.hid (show Below w.heap.size w wr by rw [hq]; exact below_drewN ((Below.refl _ _).alloc (Nat.le_refl _) _) q)
      have HB := Lib.hid hB
      have hgp := SL.g_pos n d
      have hgd : SL.g n d = if x.natAbs = 0 then 1 else (x.natAbs : Int) := by unfold SL.g; rw [← hgx.out]
      clear hg hq hB
      have t1 := SL.tdiv_in n (SL.g n d) hn
      have t2 := SL.tdiv_in d (SL.g n d) hd
      have e1 : wrap64 (n.tdiv (SL.g n d)) = n.tdiv (SL.g n d) := IntWalk.wrap64_in _ ⟨by omega, by omega⟩
      have e2 : wrap64 (d.tdiv (SL.g n d)) = d.tdiv (SL.g n d) := IntWalk.wrap64_in _ ⟨by omega, by omega⟩
      have HG := Lib.hid (show SL.lowN n d = n.tdiv (SL.g n d) ∧ SL.lowD n d = d.tdiv (SL.g n d) from ⟨rfl, rfl⟩)
      clear t1 t2
      generalize SL.g n d = G at *
      have hz : (G == 0) = false := beq_eq_false_iff_ne.2 (by omega)
      have hz1 : ¬ G = 0 := by omega
      clear hn hd hgp
      by_cases hx : x < 0
      · obtain rfl : G = -x := by rw [hgd]; split <;> omega
        clear hgd
        go_wp2_with fail
        go_region
        all_goals go_wp2_with fail
        all_goals have hB2 := (HB.out.set_ 0 (.int .i64 (wrap64 (-n.tdiv x)))).set_ 1 (.int .i64 (wrap64 (-d.tdiv x)))
        all_goals have r0 : ((wr.setCell ⟨w.heap.size, 0, none⟩ (.int .i64 (wrap64 (-n.tdiv x)))).setCell ⟨w.heap.size, 1, none⟩ (.int .i64 (wrap64 (-d.tdiv x)))).cell? ⟨w.heap.size, 0, none⟩ = some (.int .i64 (wrap64 (-n.tdiv x))) := hB2.cell 0
        all_goals have r1 : ((wr.setCell ⟨w.heap.size, 0, none⟩ (.int .i64 (wrap64 (-n.tdiv x)))).setCell ⟨w.heap.size, 1, none⟩ (.int .i64 (wrap64 (-d.tdiv x)))).cell? ⟨w.heap.size, 1, none⟩ = some (.int .i64 (wrap64 (-d.tdiv x))) := hB2.cell 1
        all_goals exact bodyPost_ret (v := .agg #[.int .i64 (wrap64 (-n.tdiv x)), .int .i64 (wrap64 (-d.tdiv x))]) (by simp [results, Try.results27, go_sem, r0, r1]) rfl ⟨by rw [HG.out.1, HG.out.2]; rw [← e1, ← e2, Int.tdiv_neg, Int.tdiv_neg], ((hW.out.setCell (Nat.le_refl _) _).setCell (Nat.le_refl _) _).drew⟩
      · by_cases hx0 : x = 0
        · subst hx0
          obtain rfl : G = 1 := by rw [hgd]; rfl
          clear hgd
          go_wp2_with fail
          go_region
          all_goals go_wp2_with fail
          all_goals have hB2 := (HB.out.set_ 0 (.int .i64 (wrap64 n))).set_ 1 (.int .i64 (wrap64 d))
          all_goals have r0 : ((wr.setCell ⟨w.heap.size, 0, none⟩ (.int .i64 (wrap64 n))).setCell ⟨w.heap.size, 1, none⟩ (.int .i64 (wrap64 d))).cell? ⟨w.heap.size, 0, none⟩ = some (.int .i64 (wrap64 n)) := hB2.cell 0
          all_goals have r1 : ((wr.setCell ⟨w.heap.size, 0, none⟩ (.int .i64 (wrap64 n))).setCell ⟨w.heap.size, 1, none⟩ (.int .i64 (wrap64 d))).cell? ⟨w.heap.size, 1, none⟩ = some (.int .i64 (wrap64 d)) := hB2.cell 1
          all_goals exact bodyPost_ret (v := .agg #[.int .i64 (wrap64 n), .int .i64 (wrap64 d)]) (by simp [results, Try.results27, go_sem, r0, r1]) rfl ⟨by rw [HG.out.1, HG.out.2]; rw [← e1, ← e2, Int.tdiv_one, Int.tdiv_one], ((hW.out.setCell (Nat.le_refl _) _).setCell (Nat.le_refl _) _).drew⟩
        · obtain rfl : G = x := by rw [hgd]; split <;> omega
          clear hgd
          go_wp2_with fail
          go_region
          all_goals go_wp2_with fail
          all_goals have hB2 := (HB.out.set_ 0 (.int .i64 (n.tdiv G))).set_ 1 (.int .i64 (d.tdiv G))
          all_goals have r0 : ((wr.setCell ⟨w.heap.size, 0, none⟩ (.int .i64 (n.tdiv G))).setCell ⟨w.heap.size, 1, none⟩ (.int .i64 (d.tdiv G))).cell? ⟨w.heap.size, 0, none⟩ = some (.int .i64 (n.tdiv G)) := hB2.cell 0
          all_goals have r1 : ((wr.setCell ⟨w.heap.size, 0, none⟩ (.int .i64 (n.tdiv G))).setCell ⟨w.heap.size, 1, none⟩ (.int .i64 (d.tdiv G))).cell? ⟨w.heap.size, 1, none⟩ = some (.int .i64 (d.tdiv G)) := hB2.cell 1
          all_goals exact bodyPost_ret (v := .agg #[.int .i64 (n.tdiv G), .int .i64 (d.tdiv G)]) (by simp [results, Try.results27, go_sem, r0, r1]) rfl ⟨by rw [HG.out.1, HG.out.2], ((hW.out.setCell (Nat.le_refl _) _).setCell (Nat.le_refl _) _).drew⟩
    · have hym := SL.tmod_nat (a := x) hy
      have e1 : IntKind.i64.wrap (x.tmod y) = x.tmod y := IntWalk.i64_in _ ⟨by omega, by omega⟩
      have hz : (y == 0) = false := beq_eq_false_iff_ne.2 hy
      have hG := Lib.hid (show Int.gcd y (x.tmod y) = Int.gcd n d by rw [SL.gcd_step, hg.out])
      have hm := Lib.hid (show -100000000000000000 ≤ x.tmod y ∧ x.tmod y ≤ 100000000000000000 by omega)
      have hQ := Lib.hid hq
      have hyy := Lib.hid (And.intro hy1 hy2)
      have HY := Lib.hid hym
      clear hym hg hq hx1 hx2 hy1 hy2
      go_wp2_with fail
      go_region
      all_goals go_wp2_with fail
      exact ⟨⟨y, x.tmod y, rfl, rfl, hyy.out.1, hyy.out.2, hm.out.1, hm.out.2, hG.out, q + 1, by rw [hQ.out]; rfl⟩, HY.out⟩
set_option maxHeartbeats 4000000 in
theorem orOne_any (n d : Int) (hn : -100000000000000000 ≤ n ∧ n ≤ 100000000000000000) (hd : -100000000000000000 ≤ d ∧ d ≤ 100000000000000000) (w : World) :
    Calls Try.prog 19 #[.int .i64 n, .int .i64 d] w (FrSays (SL.oneN n d) (SL.oneD n d) w) := by
  by_cases h0 : d = 0
  · subst h0
    go_enter Try.func19, Try.ntmps19
    go_wp2_with fail
    exact bodyPost_ret (v := .agg #[.int .i64 1, .int .i64 1]) (by simp [results, Try.results19, go_sem]) rfl ⟨rfl, (Below.refl _ _).alloc (Nat.le_refl _) _⟩
  · have hz : (d == 0) = false := beq_eq_false_iff_ne.2 h0
    have hL := fun W => Lowest_any n d hn hd W
    have HG := Lib.hid (show SL.oneN n d = SL.lowN n d ∧ SL.oneD n d = SL.lowD n d by unfold SL.oneN SL.oneD; rw [if_neg h0, if_neg h0]; exact ⟨rfl, rfl⟩)
    generalize SL.lowN n d = P at *
    generalize SL.lowD n d = Q at *
    clear hn hd h0
    go_enter Try.func19, Try.ntmps19
    go_wp2_with fail
    refine (hL _).mono ?_
    rintro e w1 ⟨rfl, hb1⟩
    have hB : Blk w1 w.heap.size 31 #[.int .i64 0, .int .i64 0] := (Blk.new w _ _).below hb1 (by simp)
    have k0 : w1.cell? ⟨w.heap.size, 0, none⟩ = some (.int .i64 0) := hB.cell 0
    have k1 : w1.cell? ⟨w.heap.size, 1, none⟩ = some (.int .i64 0) := hB.cell 1
    have f0 := hB.frozen 0
    have f1 := hB.frozen 1
    have hB2 := (hB.set_ 0 (.int .i64 P)).set_ 1 (.int .i64 Q)
    have r0 : ((w1.setCell ⟨w.heap.size, 0, none⟩ (.int .i64 P)).setCell ⟨w.heap.size, 1, none⟩ (.int .i64 Q)).cell? ⟨w.heap.size, 0, none⟩ = some (.int .i64 P) := hB2.cell 0
    have r1 : ((w1.setCell ⟨w.heap.size, 0, none⟩ (.int .i64 P)).setCell ⟨w.heap.size, 1, none⟩ (.int .i64 Q)).cell? ⟨w.heap.size, 1, none⟩ = some (.int .i64 Q) := hB2.cell 1
    have hW := Lib.hid (((((Below.refl w.heap.size w).alloc (Nat.le_refl _) (.cells #[.int .i64 0, .int .i64 0] 31)).trans (hb1.mono (by simp))).setCell (p := ⟨w.heap.size, 0, none⟩) (Nat.le_refl _) (.int .i64 P)).setCell (p := ⟨w.heap.size, 1, none⟩) (Nat.le_refl _) (.int .i64 Q))
    clear hB hB2 hL hb1
    go_wp2_with fail
    exact bodyPost_ret (v := .agg #[.int .i64 P, .int .i64 Q]) (by simp [results, Try.results19, go_sem, r0, r1]) rfl ⟨by rw [HG.out.1, HG.out.2], hW.out⟩
end Go.Proofs.Yteioinebidclpaa
