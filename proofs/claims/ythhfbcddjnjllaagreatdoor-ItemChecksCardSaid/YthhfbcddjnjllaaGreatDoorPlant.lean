/- Contract of plant. -/
import Derived.Test.YthhfbcddjnjllaaGreatDoorFind
import Derived.Test.YthhfbcddjnjllaaGreatDoorBlk
import Derived.Deep.RegionHeld3
import Derived.Deep.OwnRows
namespace Go.Proofs.YthhfbcddjnjllaaGreatDoor
open Go.RowKit

def upCells (U : List (Option Nat)) : Array Value := (U.map fun o => Value.int .i64 (FM.oi o)).toArray
/-- the first k numbers are laid, the others are still 0 -/
def upPart (U : List (Option Nat)) (k : Nat) : Array Value := ((U.take k).map (fun o => Value.int .i64 (FM.oi o)) ++ List.replicate (U.length - k) (Value.int .i64 0)).toArray

theorem made_zero (v : Value) (n : Nat) : madeCells #[v] n = (List.replicate n v).toArray := by
  apply Array.ext
  · simp [madeCells]
  · intro i h1 h2
    simp [madeCells, Nat.mod_one]
theorem upPart_zero (U : List (Option Nat)) : upPart U 0 = madeCells #[.int .i64 0] U.length := by
  rw [made_zero]; simp [upPart]
theorem upPart_all (U : List (Option Nat)) (k : Nat) (h : U.length ≤ k) : upPart U k = upCells U := by
  unfold upPart upCells
  rw [List.take_of_length_le h, show U.length - k = 0 from by omega]; simp
theorem upPart_at {U : List (Option Nat)} {k : Nat} (h : k < U.length) : (upPart U k)[k]? = some (.int .i64 0) := by
  unfold upPart
  have h2 : ((U.take k).map fun o => Value.int .i64 (FM.oi o)).length = k := by simp; omega
  rw [List.getElem?_toArray, List.getElem?_append_right (by omega), h2, Nat.sub_self, List.getElem?_replicate, if_pos (by omega)]
theorem upPart_next {U : List (Option Nat)} {k : Nat} {o : Option Nat} (h : U[k]? = some o) : (upPart U k).setIfInBounds k (.int .i64 (FM.oi o)) = upPart U (k + 1) := by
  have hk : k < U.length := (List.getElem?_eq_some_iff.1 h).1
  have e : U[k] = o := by rw [List.getElem?_eq_getElem hk] at h; injection h
  unfold upPart
  have h2 : ((U.take k).map fun o => Value.int .i64 (FM.oi o)).length = k := by simp; omega
  rw [List.setIfInBounds_toArray, List.set_append_right _ _ (by omega), h2, Nat.sub_self]
  rw [show U.length - k = (U.length - (k + 1)) + 1 from by omega, List.replicate_succ, List.set_cons_zero]
  rw [List.take_succ_eq_append_getElem hk, List.map_append, e]
  simp

theorem cell_far {w : World} {b i b' j : Nat} (v : Value) (hne : b' ≠ b) (_ : Unit) : (w.setCell ⟨b, i, none⟩ v).cell? ⟨b', j, none⟩ = w.cell? ⟨b', j, none⟩ :=
  World.cell?_of_block (Below.heap_setCell w ⟨b, i, none⟩ v b' hne)
structure PlantRel (L : List It) (A : Option Addr) (cap : Nat) (w : World) (i : Value) (wr : World) : Prop where
  i_ : ∃ k : Nat, i = .int .i64 k ∧ k ≤ L.length ∧ Blk wr (w.heap.size + 1) 3 (upPart (IM.U L) k)
  r0_ : Blk wr w.heap.size 111 #[.slice none 0 0, .slice none 0 0]
  bf_ : Blk wr (w.heap.size + 1 + 1) 111 #[.slice A L.length cap, .slice (some ⟨w.heap.size + 1, 0, none⟩) L.length L.length]
  below : Below w.heap.size w wr
/-- a forest is answered: the items and the numbers of their parents, in a new block -/
def SaysForest (L : List It) (A : Option Addr) (cap : Nat) (w : World) (e : Ending) (w' : World) : Prop := ∃ bu : Nat, e = .returned (.agg #[.slice A L.length cap, .slice (some ⟨bu, 0, none⟩) L.length L.length]) ∧ w.heap.size ≤ bu ∧ Blk w' bu 3 (upCells (IM.U L)) ∧ Below w.heap.size w w'

set_option maxRecDepth 100000 in
set_option maxHeartbeats 2000000 in
theorem plant_any (L : List It) (A : Option Addr) (cap : Nat) (w : World) (hA : ItRow w A cap L) (hL : L.length ≤ 1000000) (hr : IM.rises L) :
    Calls Tryz.prog 104 #[.slice A L.length cap] w (SaysForest L A cap w) := by
  have HR := Lib.hid hr
  clear hr
  have hcap := hA.capLe
  have hmax := hA.capMax
  have hmk := fun W => run_make_row' (P := Tryz.prog) 22 3 (.int .i64 0) 8 Tryz.underlying22 (by kernel_rfl) rfl .i64 .i64 L.length (by omega) (by omega) W
  have HL := Lib.hid hL
  clear hL
  go_enter Tryz.func104, Tryz.ntmps104
  go_wp2_with fail
  clear hmk
  go_loopw [13] (fun i wr => PlantRel L A cap w i wr) (fun i _ => L.length - (intOf i).toNat)
  case atStart =>
    refine ⟨⟨0, rfl, by omega, ?_⟩, ?_, ?_, ?_⟩
    · rw [upPart_zero, IM.U_len]
      have := ((Blk.new (w.alloc (.cells #[.slice none 0 0, .slice none 0 0] 111)) 3 (madeCells #[.int .i64 0] L.length)))
      simp only [World.size_alloc] at this
      exact this.alloc _
    · exact (((Blk.new w _ _).alloc _).alloc _)
    · have := Blk.new ((w.alloc (.cells #[.slice none 0 0, .slice none 0 0] 111)).alloc (.cells (madeCells #[.int .i64 0] L.length) 3)) 111 #[.slice A L.length cap, .slice (some ⟨w.heap.size + 1, 0, none⟩) L.length L.length]
      simp only [World.size_alloc] at this
      exact this
    · exact ((((Below.refl _ _).alloc (Nat.le_refl _) _).alloc (by simp) _).alloc (by simp; omega) _)
  case round =>
    obtain ⟨⟨k, rfl, hk, hu⟩, hr0, hbf, hb⟩ := hrel
    by_cases hlt : k < L.length
    · obtain ⟨x, hx⟩ : ∃ x, L[k]? = some x := ⟨_, List.getElem?_eq_getElem hlt⟩
      have HX := Lib.hid hx
      obtain ⟨b, off, rfl, hbl, hat⟩ := (hA.below hb).at_ k x hx
      clear hx
      obtain ⟨c0, c1, c2, c3, c4, c5, c6⟩ := hat
      go_upto_region 5 with (fail)
      clear c0 c1 c2 c3 c4 c6
      have hW : Below wr.heap.size wr (wr.alloc (.cells x.cells 30)) := (Below.refl _ _).alloc (Nat.le_refl _) _
      have d5 : (wr.alloc (.cells x.cells 30)).cell? ⟨wr.heap.size, 5, none⟩ = some (.string x.parent) := World.cell?_alloc_at _ _ _ _ (by simp)
      have dl : wr.heap.size < (wr.alloc (.cells x.cells 30)).heap.size := by simp
      revert hW d5 dl
      show (Below wr.heap.size wr (wr.alloc (.cells #[.string x.id, .string x.cu, .int .i64 x.kind, .string x.name, .int .i64 x.at', .string x.parent, .string x.text] 30)) → (wr.alloc (.cells #[.string x.id, .string x.cu, .int .i64 x.kind, .string x.name, .int .i64 x.at', .string x.parent, .string x.text] 30)).cell? ⟨wr.heap.size, 5, none⟩ = some (.string x.parent) → wr.heap.size < (wr.alloc (.cells #[.string x.id, .string x.cu, .int .i64 x.kind, .string x.name, .int .i64 x.at', .string x.parent, .string x.text] 30)).heap.size → _)
      generalize (wr.alloc (.cells #[.string x.id, .string x.cu, .int .i64 x.kind, .string x.name, .int .i64 x.at', .string x.parent, .string x.text] 30)) = w5
      intro hW d5 dl
      have hu5 := hu.below hW hu.lt
      have hr5 := hr0.below hW hr0.lt
      have hf5 := hbf.below hW hbf.lt
      have hb5 := hb.trans (hW.mono hb.size)
      have hA5 := hA.below hb5
      have hwl := hbf.lt
      clear c5 hu hr0 hbf hW
      have f0 : w5.cell? ⟨w.heap.size + 1 + 1, 0, none⟩ = some (.slice (some ⟨b, off, none⟩) L.length cap) := hf5.cell 0
      have f1 : w5.cell? ⟨w.heap.size + 1 + 1, 1, none⟩ = some (.slice (some ⟨w.heap.size + 1, 0, none⟩) L.length L.length) := hf5.cell 1
      have hkU : k < (IM.U L).length := by rw [IM.U_len]; exact hlt
      have uk : w5.cell? ⟨w.heap.size + 1, k, none⟩ = some (.int .i64 0) := (hu5.cell k).trans (upPart_at hkU)
      have uf : w5.frozen? ⟨w.heap.size + 1, k, none⟩ = false := hu5.frozen k
      have hlf := hf5.lt
      have e0 : w5.drew.cell? ⟨w.heap.size + 1 + 1, 0, none⟩ = some (.slice (some ⟨b, off, none⟩) L.length cap) := f0
      have e1 : w5.drew.cell? ⟨w.heap.size + 1 + 1, 1, none⟩ = some (.slice (some ⟨w.heap.size + 1, 0, none⟩) L.length L.length) := f1
      have e5 : w5.drew.cell? ⟨wr.heap.size, 5, none⟩ = some (.string x.parent) := d5
      have hA6 : ItRow w5.drew (some ⟨b, off, none⟩) cap L := hA5.drew
      go_region_held3 (fun w' => w'.cell? ⟨w.heap.size + 1 + 1, 0, none⟩ = some (.slice (some ⟨b, off, none⟩) L.length cap) ∧ w'.cell? ⟨w.heap.size + 1 + 1, 1, none⟩ = some (.slice (some ⟨w.heap.size + 1, 0, none⟩) L.length L.length) ∧ w'.cell? ⟨wr.heap.size, 5, none⟩ = some (.string x.parent))
        (first | (with_reducible exact ⟨f0, f1, d5⟩) | (with_reducible exact ⟨e0, e1, e5⟩) | (with_reducible exact ⟨g0, g1, g2⟩) | (with_reducible exact ⟨S0.out _, S1.out _, S2.out _⟩))
        (first | ((with_reducible refine (number_any L x _ cap _ _ hA6 HL.out HR.out).mono ?_); rintro e w6 ⟨rfl, hw6⟩; replace hw6 : Below w5.heap.size w5 w6 := ⟨hw6.os, hw6.tape, hw6.output, hw6.size, hw6.block⟩; have g0 := (hw6.cell (p := ⟨w.heap.size + 1 + 1, 0, none⟩) (by show w.heap.size + 1 + 1 < w5.heap.size; omega)).trans f0; have g1 := (hw6.cell (p := ⟨w.heap.size + 1 + 1, 1, none⟩) (by show w.heap.size + 1 + 1 < w5.heap.size; omega)).trans f1; have g2 := (hw6.cell (p := ⟨wr.heap.size, 5, none⟩) dl).trans d5; have g3 := (hw6.cell (p := ⟨w.heap.size + 1, k, none⟩) (by show w.heap.size + 1 < w5.heap.size; omega)).trans uk; have g4 := (hw6.frozen (p := ⟨w.heap.size + 1, k, none⟩) (by show w.heap.size + 1 < w5.heap.size; omega)).trans uf; have S0 := Lib.hid (fun v => (cell_far (w := w6) (b := w.heap.size + 1) (i := k) v (show w.heap.size + 1 + 1 ≠ w.heap.size + 1 by omega) ()).trans g0); have S1 := Lib.hid (fun v => (cell_far (w := w6) (b := w.heap.size + 1) (i := k) v (show w.heap.size + 1 + 1 ≠ w.heap.size + 1 by omega) ()).trans g1); have S2 := Lib.hid (fun v => (cell_far (w := w6) (b := w.heap.size + 1) (i := k) v (show wr.heap.size ≠ w.heap.size + 1 by omega) ()).trans g2)))
      have hu6 := hu5.below hw6 hu5.lt
      have hr6 := hr5.below hw6 hr5.lt
      have hf6 := hf5.below hw6 hf5.lt
      have hb6 := hb5.trans (hw6.mono hb5.size)
      clear e0 e1 e5 g0 g1 g2 g3 g4 f0 f1 d5 uk uf hu5 hr5 hf5 hb5
      have HU : Hid ((IM.U L)[k]? = some (IM.par L x)) := by
        show _ = _
        unfold IM.U
        rw [List.getElem?_map, HX.out]; rfl
      go_wp2_with fail
      refine ⟨⟨⟨k + 1, rfl, by omega, ?_⟩, hr6.far (by show w.heap.size ≠ w.heap.size + 1; omega) _, hf6.far (by show w.heap.size + 1 + 1 ≠ w.heap.size + 1; omega) _, hb6.setCell (by show w.heap.size ≤ w.heap.size + 1; omega) _⟩, by simp [intOf]; omega⟩
      rw [← upPart_next HU.out]
      exact hu6.set_ k _
    · obtain rfl : k = L.length := by omega
      rw [upPart_all _ _ (by rw [IM.U_len]; omega)] at hu
      have f0 : wr.cell? ⟨w.heap.size + 1 + 1, 0, none⟩ = some (.slice A L.length cap) := hbf.cell 0
      have f1 : wr.cell? ⟨w.heap.size + 1 + 1, 1, none⟩ = some (.slice (some ⟨w.heap.size + 1, 0, none⟩) L.length L.length) := hbf.cell 1
      have r0 : wr.cell? ⟨w.heap.size, 0, none⟩ = some (.slice none 0 0) := hr0.cell 0
      have r1 : wr.cell? ⟨w.heap.size, 1, none⟩ = some (.slice none 0 0) := hr0.cell 1
      have rf0 := hr0.frozen 0
      have rf1 := hr0.frozen 1
      go_wp2_with fail
      refine bodyPost_ret (v := .agg #[.slice A L.length cap, .slice (some ⟨w.heap.size + 1, 0, none⟩) L.length L.length]) (by simp [results, Tryz.results104, go_sem, r0, r1]) rfl ?_
      exact ⟨w.heap.size + 1, rfl, by omega, (hu.far (by show w.heap.size + 1 ≠ w.heap.size; omega) _).far (by show w.heap.size + 1 ≠ w.heap.size; omega) _, (hb.setCell (Nat.le_refl _) _).setCell (Nat.le_refl _) _⟩
end Go.Proofs.YthhfbcddjnjllaaGreatDoor
