/- Contracts of package natural: trimmed, Of; sample.small. -/
import Derived.Test.YtcpneokkhjffeaaBlk
import Derived.IntWalk
import Derived.RegionTactic
import Derived.Deep.OwnRows
import Derived.Deep.RegionWith
import Derived.Deep.RegionHeld3
namespace Go.Proofs.Ytcpneokkhjffeaa
open Go.RowKit

/-- a row of digits -/
def Digs (w : World) (g n : Nat) : Prop := ∃ f : Nat → Int, w.rowIs g 62 n (fun j => .int .u32 (f j))
theorem Digs.below {w w' : World} {g n B : Nat} (h : Digs w g n) (hb : Below B w w') (hg : g < B) : Digs w' g n := by
  obtain ⟨f, hf⟩ := h; exact ⟨f, hf.of_block (hb.block g hg)⟩
theorem Digs.lt {w : World} {g n : Nat} (h : Digs w g n) : g < w.heap.size := by obtain ⟨f, hf⟩ := h; exact hf.lt
theorem Digs.cell {w : World} {g n : Nat} (h : Digs w g n) {j : Nat} (hj : j < n) : ∃ d : Int, w.cell? ⟨g, j, none⟩ = some (.int .u32 d) := by
  obtain ⟨f, hf⟩ := h; exact ⟨_, World.rowIs.cell hf hj⟩
theorem Digs.frozen {w : World} {g n : Nat} (h : Digs w g n) (j : Nat) : w.frozen? ⟨g, j, none⟩ = false := by
  obtain ⟨f, hf⟩ := h; exact World.rowIs.frozen hf j
theorem Digs.set {w : World} {g n : Nat} (h : Digs w g n) (i : Nat) (d : Int) : Digs (w.setCell ⟨g, i, none⟩ (.int .u32 d)) g n := by
  obtain ⟨f, hf⟩ := h
  refine ⟨fun j => if j = i then d else f j, (World.rowIs.set hf i _).congr fun j _ => ?_⟩
  by_cases e : j = i
  · simp [e]
  · simp [e]
theorem Digs.setOther {w : World} {g n : Nat} (h : Digs w g n) {a : Addr} (ha : g ≠ a.block) (v : Value) : Digs (w.setCell a v) g n := by
  obtain ⟨f, hf⟩ := h; exact ⟨f, World.rowIs.setOther hf ha v⟩
theorem Digs.drewN {w : World} {g n : Nat} (h : Digs w g n) (q : Nat) : Digs (w.drewN q) g n := h
theorem Digs.alloc {w : World} {g n : Nat} (h : Digs w g n) (o : Obj) : Digs (w.alloc o) g n := by
  obtain ⟨f, hf⟩ := h; exact ⟨f, World.rowIs.alloc hf o⟩
theorem Digs.made (w : World) (n : Nat) : Digs (w.alloc (.cells (madeCells #[.int .u32 0] n) 62)) w.heap.size n := ⟨fun _ => 0, World.rowIs_made w _ n _⟩
/-- a number with at most N digits -/
def Num (w : World) (v : Value) (N : Nat) : Prop := ∃ g n s, v = .slice (some ⟨g, 0, none⟩) n s ∧ n ≤ s ∧ s ≤ N ∧ Digs w g s
theorem Num.below {w w' : World} {v : Value} {N B : Nat} (h : Num w v N) (hb : Below B w w') (hB : w.heap.size ≤ B) : Num w' v N := by
  obtain ⟨g, n, s, e, h1, h2, h3⟩ := h; exact ⟨g, n, s, e, h1, h2, h3.below hb (Nat.lt_of_lt_of_le h3.lt hB)⟩
theorem Num.alloc {w : World} {v : Value} {N : Nat} (h : Num w v N) (o : Obj) : Num (w.alloc o) v N := by
  obtain ⟨g, n, s, e, h1, h2, h3⟩ := h; exact ⟨g, n, s, e, h1, h2, h3.alloc o⟩
theorem Num.drewN {w : World} {v : Value} {N : Nat} (h : Num w v N) (q : Nat) : Num (w.drewN q) v N := h
theorem Num.more {w : World} {v : Value} {N M : Nat} (h : Num w v N) (hm : N ≤ M) : Num w v M := by
  obtain ⟨g, n, s, e, h1, h2, h3⟩ := h; exact ⟨g, n, s, e, h1, by omega, h3⟩
def NumSays (N : Nat) (w : World) (e : Ending) (w' : World) : Prop := ∃ v, e = .returned (.agg #[v]) ∧ Num w' v N ∧ Below w.heap.size w w'
def TrRel (w : World) (g n s : Nat) (v : Value) (wr : World) : Prop := ∃ k : Nat, v = .slice (some ⟨g, 0, none⟩) k s ∧ k ≤ n ∧ Hid (∃ q, wr = (w.alloc (.cells #[.slice none 0 0] 67)).drewN q)
set_option maxHeartbeats 4000000 in
theorem trimmed_any {w : World} {g n s N : Nat} (h : Digs w g s) (hn : n ≤ s) (hN : s ≤ N) (hs : s ≤ 1000000) :
    Calls Try.prog 44 #[.slice (some ⟨g, 0, none⟩) n s] w (NumSays N w) := by
  have HD := Lib.hid h
  clear h
  go_enter Try.func44, Try.ntmps44
  go_wp2_with fail
  go_loopw [0] (fun v wr => TrRel w g n s v wr) (fun v _ => match v with | .slice _ k _ => k | _ => 0)
  case atStart => exact ⟨n, rfl, Nat.le_refl _, Lib.hid ⟨0, rfl⟩⟩
  case round =>
    obtain ⟨k, rfl, hk, HQ⟩ := hrel
    have hDw : Digs wr g s := by
      obtain ⟨q, hq⟩ := HQ.out
      rw [hq]
      exact (HD.out.alloc _).drewN q
    have hB : Blk wr w.heap.size 67 #[.slice none 0 0] := by
      obtain ⟨q, hq⟩ := HQ.out
      rw [hq]
      exact (Blk.new _ _ _).drewN q
    have hW : Below w.heap.size w wr := by
      obtain ⟨q, hq⟩ := HQ.out
      rw [hq]
      exact below_drewN ((Below.refl _ _).alloc (Nat.le_refl _) _) q
    have f0 := hB.frozen 0
    have c0 : wr.cell? ⟨w.heap.size, 0, none⟩ = some (.slice none 0 0) := hB.cell 0
    have hgn : g ≠ w.heap.size := by have := HD.out.lt; omega
    have hB2 := hB.set_ 0 (.slice (some ⟨g, 0, none⟩) k s)
    have r0 : (wr.setCell ⟨w.heap.size, 0, none⟩ (.slice (some ⟨g, 0, none⟩) k s)).cell? ⟨w.heap.size, 0, none⟩ = some (.slice (some ⟨g, 0, none⟩) k s) := hB2.cell 0
    have HE := Lib.hid (show Num (wr.setCell ⟨w.heap.size, 0, none⟩ (.slice (some ⟨g, 0, none⟩) k s)) (.slice (some ⟨g, 0, none⟩) k s) N ∧ Below w.heap.size w (wr.setCell ⟨w.heap.size, 0, none⟩ (.slice (some ⟨g, 0, none⟩) k s)) from
      ⟨⟨g, k, s, rfl, by omega, hN, hDw.setOther hgn _⟩, hW.setCell (Nat.le_refl _) _⟩)
    clear hB hB2 hW
    by_cases h0 : 0 < k
    · obtain ⟨d, hd⟩ := hDw.cell (j := k - 1) (by omega)
      have hk1 : wrap64 ((k : Int) - 1) = ((k - 1 : Nat) : Int) := by rw [IntWalk.wrap64_in _ ⟨by omega, by omega⟩]; omega
      clear hDw HD
      by_cases hd0 : d = 0
      · subst hd0
        clear HE r0 c0 f0
        obtain ⟨j, rfl⟩ : ∃ j, k = j + 1 := ⟨k - 1, by omega⟩
        have hd' : wr.cell? ⟨g, j, none⟩ = some (.int .u32 0) := hd
        clear hd
        go_wp2_with fail
        exact ⟨⟨j, by simp, by omega, HQ⟩, by simp⟩
      · have hz : (d == 0) = false := beq_eq_false_iff_ne.2 hd0
        obtain ⟨j, rfl⟩ : ∃ j, k = j + 1 := ⟨k - 1, by omega⟩
        have hd' : wr.cell? ⟨g, j, none⟩ = some (.int .u32 d) := hd
        clear hd HQ
        go_wp2_with fail
        exact bodyPost_ret (v := .agg #[.slice (some ⟨g, 0, none⟩) (j + 1) s]) (by simp [results, Try.results44, go_sem, r0]) rfl ⟨_, rfl, HE.out.1, HE.out.2⟩
    · obtain rfl : k = 0 := by omega
      clear hDw HD HQ
      go_wp2_with fail
      exact bodyPost_ret (v := .agg #[.slice (some ⟨g, 0, none⟩) 0 s]) (by simp [results, Try.results44, go_sem, r0]) rfl ⟨_, rfl, HE.out.1, HE.out.2⟩
end Go.Proofs.Ytcpneokkhjffeaa
