/- slices.Backward over a row of digits. -/
import Derived.Test.YtcpneokkhjffeaaNat1
import Derived.RangeFuncBox
import Derived.RangeFuncLeaves
import Derived.Shelf.Abstract
import Derived.WalkKit
import Derived.OwnWalkIn
import Derived.TacticsInMore
import Derived.LoopNIn
import Derived.LoopIn
namespace Go.Proofs.Ytcpneokkhjffeaa
open Go.RowKit Go.Shelf

attribute [local go_sem] Oper.semAt_some

/-- what a round keeps: what lay ahead of the call, and the box of the iterator -/
def KpB (Bs n₀ : Nat) (W W' : World) : Prop := Below n₀ W W' ∧ ∀ v, W.cell? ⟨Bs, 0, none⟩ = some v → W'.cell? ⟨Bs, 0, none⟩ = some v
theorem KpB.refl (Bs n₀ : Nat) (W : World) : KpB Bs n₀ W W := ⟨Below.refl _ _, fun _ h => h⟩
theorem KpB.trans {Bs n₀ : Nat} {A B C : World} (h : KpB Bs n₀ A B) (h2 : KpB Bs n₀ B C) : KpB Bs n₀ A C := ⟨h.1.trans h2.1, fun v e => h2.2 v (h.2 v e)⟩
def BackRel (Bs len n₀ : Nat) (W : World) (J : List { x : Nat × Int // x.1 < len } → World → Prop) (i : Value) (wr : World) : Prop := ∃ (k : Nat) (z : Int) (pre : List { x : Nat × Int // x.1 < len }), k ≤ len ∧ i = .int .i64 z ∧ z = (k : Int) - 1 ∧ pre.length = len - k ∧ J pre wr ∧ KpB Bs n₀ W wr
set_option maxRecDepth 100000 in
set_option maxHeartbeats 4000000 in
theorem back1_in (F : Fence) (n : Nat) (h7 : F.fn 53) (hro : F.round = none) (hn : 1 ≤ n) (l Bs n₀ b len cap s : Nat) (hlen : len ≤ s) (hs : s ≤ 100000) (hb : b < n₀) (J Jx : List { x : Nat × Int // x.1 < len } → World → Prop)
    (hY : ∀ pre x W, J pre W → pre.length < len → YieldAt F (n - 1) Try.prog l #[.int .i64 (x.1.1 : Int), .int .u32 x.1.2] W fun e W' =>
      (e = .returned (.bool true) ∧ J (pre ++ [x]) W' ∧ KpB Bs n₀ W W') ∨ (e = .returned (.bool false) ∧ Jx (pre ++ [x]) W'))
    (W : World) (hBs : W.cell? ⟨Bs, 0, none⟩ = some (.slice (some ⟨b, 0, none⟩) len cap)) (hc : Digs W b s) (h0 : J [] W) :
    CallsIn F n Try.prog 53 #[.func (.yield l) #[] #[], .pointer (some ⟨Bs, 0, none⟩)] W fun e W' => (∃ v, e = .returned v) ∧
      ((∃ ys, J ys W') ∨ (∃ pre, Jx pre W')) := by
  refine callsIn_of_wp Try.func53 rfl h7 ?_ hro
  simp only [Try.ntmps53, List.size_toArray, List.length_cons, List.length_nil, Nat.reduceAdd, Nat.reduceSub, Array.replicate_succ, Array.replicate_zero, List.push_toArray, List.append_toArray, List.nil_append, List.cons_append]
  gi_wp2
  gi_loopw [3] (fun i wr => BackRel Bs len n₀ W J i wr) (fun i _ => (intOf i + 1).toNat)
  case atStart => exact ⟨len, (len : Int) - 1, [], Nat.le_refl _, rfl, rfl, by simp, h0, KpB.refl _ _ _⟩
  case round =>
    obtain ⟨k, z, pre, hk, rfl, hz, hpl, hJs, hnx⟩ := hrel
    cases k with
    | zero =>
      have hz1 : ¬ (0 : Int) ≤ z := by omega
      clear hz
      gi_wp2
      go_end0
      exact ⟨⟨_, rfl⟩, .inl ⟨_, hJs⟩⟩
    | succ k =>
      have hz1 : z = (k : Int) := by omega
      subst hz1
      clear hz
      obtain ⟨d, hd⟩ := hc.cell (j := k) (by omega)
      have hcx := (hnx.1.cell (p := ⟨b, k, none⟩) hb).trans hd
      have hbx := hnx.2 _ hBs
      have hkl : (k : Int) < (len : Int) := by omega
      obtain ⟨fn, tmps, assign, body, hy, hR⟩ := hY pre ⟨(k, d), hk⟩ wr hJs (by omega)
      dsimp only at hy
      gi_wp2
      refine hR.mono ?_
      rintro e W3 (⟨rfl, hJ3, hk3⟩ | ⟨rfl, hJx3⟩)
      · gi_wp2
        go_roundw
        case rel => exact ⟨k, (k : Int) - 1, _, by omega, rfl, rfl, by simp; omega, hJ3, hnx.trans hk3⟩
        case measure => simp [intOf]
      · gi_wp2
        refine bodyPost_ret (results_none rfl _ _ _) rfl ?_
        exact ⟨⟨_, rfl⟩, .inr ⟨_, hJx3⟩⟩
set_option maxHeartbeats 4000000 in
theorem back_in (F : Fence) (n : Nat) (h5 : F.fn 50) (hro : F.round = none) (a : Option Addr) (len cap : Nat) (w : World) :
    CallsIn F n Try.prog 50 #[.slice a len cap] w fun e w' => e = .returned (.func (.func 53) #[] #[.pointer (some ⟨w.heap.size, 0, none⟩)]) ∧ w' = w.alloc (.cells #[.slice a len cap] 65) := by
  refine callsIn_of_wp Try.func50 rfl h5 ?_ hro
  simp only [Try.ntmps50, List.size_toArray, List.length_cons, List.length_nil, Nat.reduceAdd, Nat.reduceSub, Array.replicate_succ, Array.replicate_zero, List.push_toArray, List.append_toArray, List.nil_append, List.cons_append]
  gi_wp2
  go_ret
  exact ⟨rfl, rfl⟩
theorem back_stops (F : Fence) (n : Nat) (h8 : F.fn 53) (hro : F.round = none) (hn : 1 ≤ n) (Bs n₀ b len cap s : Nat) (hlen : len ≤ s) (hs : s ≤ 100000) (w : World) (hb : b < n₀) (hBn : Bs < w.heap.size)
    (hc : w.cell? ⟨Bs, 0, none⟩ = some (.slice (some ⟨b, 0, none⟩) len cap)) (hI : Digs w b s) :
    SeqStopsK F n Try.prog 53 #[.pointer (some ⟨Bs, 0, none⟩)] (fun x : { x : Nat × Int // x.1 < len } => #[Value.int .i64 (x.1.1 : Int), Value.int .u32 x.1.2]) (KpB Bs n₀) (fun _ => True) (fun _ => True) len w := fun l J Jx W hW _ _ hY h0 => by
  have hc' := (hW.cell (p := ⟨Bs, 0, none⟩) hBn).trans hc
  refine (back1_in F n h8 hro hn l Bs n₀ b len cap s hlen hs hb J Jx hY W hc' (hI.below hW hI.lt) h0).mono ?_
  rintro e W' ⟨he, ⟨ys, hj⟩ | ⟨pre, hj⟩⟩
  · exact ⟨he, .inl ⟨_, trivial, hj⟩⟩
  · exact ⟨he, .inr ⟨_, trivial, hj⟩⟩
end Go.Proofs.Ytcpneokkhjffeaa
