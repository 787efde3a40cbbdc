/- Contracts of misplaced, above and tooDeep. -/
import Derived.Test.YthhfbcddjnjllaaGreatDoorCirc
import Derived.BigQuiet
import Derived.Deep.QuietTactic
namespace Go.Proofs.YthhfbcddjnjllaaGreatDoor
open Go.RowKit

/-- a forest in memory -/
structure Wood (w : World) (L : List It) (A : Option Addr) (cap bu : Nat) : Prop where
  row : ItRow w A cap L
  up : Blk w bu 3 (upCells (IM.U L))
theorem Wood.below {w w' : World} {L : List It} {A : Option Addr} {cap bu : Nat} (h : Wood w L A cap bu) (hb : Below w.heap.size w w') : Wood w' L A cap bu := ⟨h.row.below hb, h.up.below hb h.up.lt⟩

theorem misp_none {L : List It} {i : Nat} (h : FM.nx (IM.U L) i = none) : IM.mispB L i = false := by unfold IM.mispB; rw [h]
theorem misp_some {L : List It} {i k : Nat} {y : It} (h : FM.nx (IM.U L) i = some k) (hy : L[k]? = some y) : IM.mispB L i = !IM.kindOk y.kind := by unfold IM.mispB; simp only [h, hy]

set_option maxHeartbeats 1000000 in
theorem misplaced_any (L : List It) (A : Option Addr) (cap bu i : Nat) (hi : i < L.length) (w : World) (hW : Wood w L A cap bu) (b : Bool) (hb : IM.mispB L i = b) :
    Calls Tryz.prog 144 #[.agg #[.slice A L.length cap, .slice (some ⟨bu, 0, none⟩) L.length L.length], .int .i64 i] w (SaysK b w) := by
  have HB := Lib.hid hb
  clear hb
  have hcap := hW.row.capLe
  have hmax := hW.row.capMax
  have hA1 : ∀ o, Below w.heap.size w (w.alloc o) := fun o => (Below.refl _ _).alloc (Nat.le_refl _) _
  have hiU : i < (IM.U L).length := by rw [IM.U_len]; exact hi
  have cu : w.cell? ⟨bu, i, none⟩ = some (.int .i64 (FM.oi (FM.nx (IM.U L) i))) := (hW.up.cell i).trans (up_at hiU)
  have hbl := hW.up.lt
  cases hnx : FM.nx (IM.U L) i with
  | none =>
    obtain rfl : false = b := by rw [← HB.out, misp_none hnx]
    rw [hnx] at cu
    change w.cell? ⟨bu, i, none⟩ = some (.int .i64 (-1)) at cu
    clear hnx
    go_enter Tryz.func144, Tryz.ntmps144
    go_wp2_with fail
    go_ret
    exact ⟨rfl, hA1 _⟩
  | some k =>
    have hk : k < L.length := by have := IM.U_good L i k hnx; rw [IM.U_len] at this; exact this
    obtain ⟨y, hy⟩ : ∃ y, L[k]? = some y := ⟨_, List.getElem?_eq_getElem hk⟩
    obtain ⟨bb, off, rfl, hbb, hat⟩ := hW.row.at_ k y hy
    obtain rfl : (!IM.kindOk y.kind) = b := by rw [← HB.out, misp_some hnx hy]
    rw [hnx] at cu
    change w.cell? ⟨bu, i, none⟩ = some (.int .i64 (k : Int)) at cu
    obtain ⟨c0, c1, c2, c3, c4, c5, c6⟩ := hat
    clear hnx hy c0 c1 c3 c4 c5 c6
    have q1 : ((k : Int) == -1) = false := beq_eq_false_iff_ne.2 (by omega)
    by_cases k1 : y.kind = 1
    · have q2 : (y.kind != 1) = false := by rw [k1]; rfl
      have e : (!IM.kindOk y.kind) = false := by unfold IM.kindOk; rw [k1]; rfl
      rw [e]
      clear e k1 HB
      go_enter Tryz.func144, Tryz.ntmps144
      go_wp2_with fail
      go_quiet (fail)
      go_wp2_with fail
      go_ret
      exact ⟨rfl, below_drewN (hA1 _) _⟩
    by_cases k3 : y.kind = 3
    · have q2 : (y.kind != 1) = true := by rw [k3]; rfl
      have q3 : (y.kind != 3) = false := by rw [k3]; rfl
      have e : (!IM.kindOk y.kind) = false := by unfold IM.kindOk; rw [k3]; rfl
      rw [e]
      clear e k3 k1 HB
      go_enter Tryz.func144, Tryz.ntmps144
      go_wp2_with fail
      go_quiet (fail)
      go_wp2_with fail
      go_ret
      exact ⟨rfl, below_drewN (hA1 _) _⟩
    · have q2 : (y.kind != 1) = true := bne_iff_ne.2 k1
      have q3 : (y.kind != 3) = true := bne_iff_ne.2 k3
      have e : (!IM.kindOk y.kind) = true := by unfold IM.kindOk; simp [k1, k3]
      rw [e]
      clear e k3 k1 HB
      go_enter Tryz.func144, Tryz.ntmps144
      go_wp2_with fail
      go_quiet (fail)
      go_wp2_with fail
      go_ret
      exact ⟨rfl, below_drewN (hA1 _) _⟩

def AboveRel (U : List (Option Nat)) (i : Nat) (many at' : Value) : Prop := ∃ (k : Nat) (o : Option Nat), k ≤ (FM.chain U (U.length + 1) i).length ∧ many = .int .i64 k ∧ at' = .int .i64 (FM.oi o) ∧ Hid (FM.up U (k + 1) i = o)
def SaysD (n : Nat) (w : World) (e : Ending) (w' : World) : Prop := e = .returned (.int .i64 n) ∧ Below w.heap.size w w'
set_option maxHeartbeats 2000000 in
theorem above_any (L : List It) (A : Option Addr) (cap bu i : Nat) (hi : i < L.length) (hL : L.length ≤ 1000000) (w : World) (hW : Wood w L A cap bu) (he : FM.ends (IM.U L) i) :
    Calls Tryz.prog 99 #[.agg #[.slice A L.length cap, .slice (some ⟨bu, 0, none⟩) L.length L.length], .int .i64 i] w (SaysD (IM.depth L i) w) := by
  have hlen := IM.U_len L
  have hiU : i < (IM.U L).length := by omega
  obtain ⟨hd1, hd2, hd3⟩ := FM.chain_whole (IM.U_good L) hiU he
  have hdep : Hid (IM.depth L i = (FM.chain (IM.U L) ((IM.U L).length + 1) i).length) := by show _ = _; unfold IM.depth; rw [hlen]
  have HLn := Lib.hid hlen
  have HD2 := Lib.hid hd2
  have HD3 := Lib.hid hd3
  have hd1' : (FM.chain (IM.U L) ((IM.U L).length + 1) i).length < L.length := by omega
  have hA1 : ∀ o, Below w.heap.size w (w.alloc o) := fun o => (Below.refl _ _).alloc (Nat.le_refl _) _
  have hbl := hW.up.lt
  have cu : w.cell? ⟨bu, i, none⟩ = some (.int .i64 (FM.oi (FM.nx (IM.U L) i))) := (hW.up.cell i).trans (up_at hiU)
  clear hd1 hd2 hd3 hlen hiU
  generalize hdd : (FM.chain (IM.U L) ((IM.U L).length + 1) i).length = d at *
  have HDD := Lib.hid hdd
  clear hdd
  go_enter Tryz.func99, Tryz.ntmps99
  go_wp2_with fail
  go_loop [5, 6] (fun many at' => AboveRel (IM.U L) i many at') (fun many _ => L.length - (intOf many).toNat)
  case atStart => exact ⟨0, _, by omega, rfl, rfl, rfl⟩
  case round =>
    obtain ⟨k, o, hk, rfl, hat, HU⟩ := hrel
    have hk' : k ≤ d := by have := HDD.out; omega
    cases o with
    | none =>
      obtain rfl : u6 = .int .i64 (-1) := hat
      have e : k = d := by
        rcases Nat.lt_or_ge k d with h | h
        · obtain ⟨x, hx, _⟩ := HD3.out (k + 1) (by omega)
          rw [HU.out] at hx; cases hx
        · omega
      have HE := Lib.hid e
      clear e
      go_wp2_with fail
      go_ret
      refine ⟨?_, hA1 _⟩
      show Ending.returned (.int .i64 (k : Int)) = _
      rw [hdep.out, ← HE.out]
    | some a =>
      obtain rfl : u6 = .int .i64 (a : Int) := hat
      have ha : a < L.length := by have := FM.up_lt (IM.U_good L) (by have := HLn.out; omega) HU.out; have := HLn.out; omega
      have cu : w.cell? ⟨bu, a, none⟩ = some (.int .i64 (FM.oi (FM.nx (IM.U L) a))) := (hW.up.cell a).trans (up_at (by have := HLn.out; omega))
      have hkd : k < d := by
        rcases Nat.lt_or_ge k d with h | h
        · exact h
        · have e : k = d := by omega
          have := HU.out
          rw [e, HD2.out] at this; cases this
      have q1 : ((a : Int) != -1) = true := bne_iff_ne.2 (by omega)
      go_wp2_with fail
      refine ⟨⟨k + 1, FM.nx (IM.U L) a, by have := HDD.out; omega, rfl, rfl, ?_⟩, by simp [intOf]; omega⟩
      show _ = _
      rw [FM.up_succ, HU.out]; rfl

set_option maxHeartbeats 1000000 in
theorem tooDeep_any (L : List It) (A : Option Addr) (cap bu i : Nat) (hi : i < L.length) (hL : L.length ≤ 1000000) (w : World) (hW : Wood w L A cap bu) (he : FM.ends (IM.U L) i) (b : Bool) (hb : decide (4 < IM.depth L i) = b) :
    Calls Tryz.prog 145 #[.agg #[.slice A L.length cap, .slice (some ⟨bu, 0, none⟩) L.length L.length], .int .i64 i] w (SaysK b w) := by
  have hA1 : ∀ o, Below w.heap.size w (w.alloc o) := fun o => (Below.refl _ _).alloc (Nat.le_refl _) _
  have HB := Lib.hid hb
  have HE := Lib.hid he
  clear hb he
  go_enter Tryz.func145, Tryz.ntmps145
  go_wp2_with fail
  refine (above_any L A cap bu i hi hL _ (hW.below (hA1 _)) HE.out).mono ?_
  rintro e w1 ⟨rfl, hw1⟩
  revert HB
  generalize IM.depth L i = d
  intro HB
  cases b
  · have h : ¬ 4 < d := of_decide_eq_false HB.out
    have q : decide (4 < (d : Int)) = false := decide_eq_false (by omega)
    clear h
    go_wp2_with fail
    go_ret
    exact ⟨rfl, (hA1 _).trans (hw1.mono (hA1 _).size)⟩
  · have h : 4 < d := of_decide_eq_true HB.out
    have q : decide (4 < (d : Int)) = true := decide_eq_true (by omega)
    clear h
    go_wp2_with fail
    go_ret
    exact ⟨rfl, (hA1 _).trans (hw1.mono (hA1 _).size)⟩
end Go.Proofs.YthhfbcddjnjllaaGreatDoor
