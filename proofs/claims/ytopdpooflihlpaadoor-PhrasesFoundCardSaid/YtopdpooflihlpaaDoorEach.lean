/- Contracts of privilege.eachPlace with the note of Find. -/
import Derived.Test.YtopdpooflihlpaaDoorBody
import Derived.Test.YtopdpooflihlpaaDoorPhM
import Derived.Shelf.Abstract
import Derived.Shelf.Strings.Search3
import Derived.Deep.OwnRows
import Derived.BigRegion
import Derived.IntWalk
namespace Go.Proofs.YtopdpooflihlpaaDoor
open Go.RowKit

/-- the bytes of a string -/
def bs (s : ByteArray) : List UInt8 := s.data.toList
theorem bs_len (s : ByteArray) : (bs s).length = s.size := by simp [bs]
/-- a row of numbers in block g -/
def Ends (w : World) (g n : Nat) (f : Nat → Nat) : Prop := w.rowIs g 3 n (fun j => .int .i64 (f j))
theorem Ends.cell {w : World} {g n j : Nat} {f : Nat → Nat} (h : Ends w g n f) (hj : j < n) : w.cell? ⟨g, j, none⟩ = some (.int .i64 (f j)) := World.rowIs.cell h hj
theorem Ends.frozen {w : World} {g n : Nat} {f : Nat → Nat} (h : Ends w g n f) (j : Nat) : w.frozen? ⟨g, j, none⟩ = false := World.rowIs.frozen h j
theorem Ends.lt {w : World} {g n : Nat} {f : Nat → Nat} (h : Ends w g n f) : g < w.heap.size := World.rowIs.lt h
theorem Ends.below {w w' : World} {B g n : Nat} {f : Nat → Nat} (h : Ends w g n f) (hb : Below B w w') (hg : g < B) : Ends w' g n f := World.rowIs.of_block h (hb.block g hg)
theorem Ends.alloc {w : World} {g n : Nat} {f : Nat → Nat} (h : Ends w g n f) (o : Obj) : Ends (w.alloc o) g n f := World.rowIs.alloc h o
theorem Ends.congr {w : World} {g n : Nat} {f f' : Nat → Nat} (h : Ends w g n f) (e : ∀ j, j < n → f j = f' j) : Ends w g n f' := World.rowIs.congr h fun j hj => by rw [e j hj]
theorem Ends.set {w : World} {g n : Nat} {f : Nat → Nat} (h : Ends w g n f) (i z : Nat) : Ends (w.setCell ⟨g, i, none⟩ (.int .i64 z)) g n (fun j => if j = i then z else f j) := by
  refine World.rowIs.congr (World.rowIs.set h i (.int .i64 z)) fun j _ => ?_
  by_cases e : j = i <;> simp [e]
theorem Ends.grown {w w' : World} {g n : Nat} {f : Nat → Nat} (h : Ends w g n f) {row : Option Nat} (hg : w.grownBy w' row) (hr : row ≠ some g) : Ends w' g n f := World.rowIs.of_block h (hg.block g h.lt (fun e => hr e.symm))
def NoteSays (w : World) (g n : Nat) (f : Nat → Nat) (e : Ending) (w' : World) : Prop := e = .returned (.tuple #[]) ∧ Ends w' g n f ∧ w.grownBy w' (some g)
theorem grown_setE (w : World) (g i : Nat) (v : Value) : w.grownBy (w.setCell ⟨g, i, none⟩ v) (some g) := grown_set w g i v
theorem only_drewE {a w : World} {row : Option Nat} (h : a.grownBy w row) : a.grownBy w.drew row := ⟨h.os, h.tape, h.output, h.size, h.block⟩
set_option maxHeartbeats 2000000 in
theorem note_any {w : World} {ge be bp n j : Nat} {f : Nat → Nat} {p : ByteArray} (h : Ends w ge n f) (hbe : w.cell? ⟨be, 0, none⟩ = some (.slice (some ⟨ge, 0, none⟩) n n)) (hbp : w.cell? ⟨bp, 0, none⟩ = some (.string p)) (hj : j < n) (hn : n ≤ 1000000) (hp : p.size ≤ 1000) :
    Calls Tryd.prog 19 #[.int .i64 j, .pointer (some ⟨be, 0, none⟩), .pointer (some ⟨bp, 0, none⟩)] w (NoteSays w ge n (fun k => if k = j then max (f j) (j + p.size) else f k)) := by
  have d1 := h.cell hj
  have d2 := h.frozen j
  obtain ⟨x, hx⟩ : ∃ x, f j = x := ⟨_, rfl⟩
  rw [hx] at d1
  have hv : Hid (max (x : Int) ((j : Int) + (p.size : Int)) = ((max x (j + p.size) : Nat) : Int)) := Lib.hid (by omega)
  have hv2 : Hid ((if (x : Int) < (j : Int) + (p.size : Int) then (j : Int) + (p.size : Int) else (x : Int)) = ((max x (j + p.size) : Nat) : Int)) := Lib.hid (by split <;> omega)
  have e1 : IntKind.i64.wrap ((j : Int) + (p.size : Int)) = (j : Int) + (p.size : Int) := IntWalk.i64_in _ ⟨by omega, by omega⟩
  have e2 : 0 ≤ (j : Int) := by omega
  have e3 : (j : Int) < (n : Int) := by omega
  have HS := Lib.hid (h.set j (max x (j + p.size)))
  have HX := Lib.hid hx
  clear h hx
  go_enter Tryd.func19, Tryd.ntmps19
  go_wp2_with fail
  go_region
  go_wp2_with fail
  go_end0
  refine ⟨rfl, ?_, ?_⟩
  · rw [HX.out]
    first
      | (rw [hv.out]; exact HS.out)
      | (rw [hv2.out]; exact HS.out)
  · exact only_drewE (grown_set w ge j _)
def EpRel (t p : ByteArray) (w : World) (ge : Nat) (f : Nat → Nat) (i : Value) (wr : World) : Prop := ∃ k : Nat, i = .int .i64 k ∧ k ≤ t.size ∧ Hid (Ends wr ge t.size (fun j => if j < k ∧ WM.occ (bs t) (bs p) j = true then max (f j) (j + p.size) else f j)) ∧ Hid (w.grownBy wr (some ge))
set_option maxHeartbeats 4000000 in
theorem eachPlace_any {w : World} {ge be bp : Nat} {f : Nat → Nat} {t p : ByteArray} (h : Ends w ge t.size f) (hbe : w.cell? ⟨be, 0, none⟩ = some (.slice (some ⟨ge, 0, none⟩) t.size t.size)) (hbp : w.cell? ⟨bp, 0, none⟩ = some (.string p)) (hne1 : be ≠ ge) (hne2 : bp ≠ ge) (hl1 : be < w.heap.size) (hl2 : bp < w.heap.size) (hT : LibV w) (hge : libTop ≤ ge) (ht : t.size ≤ 1000000) (hp : 0 < p.size) (hp2 : p.size ≤ 1000) :
    Calls Tryd.prog 18 #[.string t, .string p, .func (.func 19) #[] #[.pointer (some ⟨be, 0, none⟩), .pointer (some ⟨bp, 0, none⟩)]] w (NoteSays w ge t.size (fun j => if WM.occ (bs t) (bs p) j = true then max (f j) (j + p.size) else f j)) := by
  have eg := enters_of Tryd.func19 (by kernel_rfl) rfl
  have H0 := Lib.hid (show Ends w ge t.size (fun j => if j < 0 ∧ WM.occ (bs t) (bs p) j = true then max (f j) (j + p.size) else f j) from h.congr fun j _ => by simp)
  have HC := Lib.hid (And.intro hbe hbp)
  have HT := Lib.hid hT
  clear h hbe hbp hT
  go_enter Tryd.func18, Tryd.ntmps18
  go_wp2_with fail
  go_loopw [6] (fun i wr => EpRel t p w ge f i wr) (fun i _ => t.size - (intOf i).toNat)
  case atStart => exact ⟨0, rfl, Nat.zero_le _, H0, Lib.hid (World.grownBy.refl _ _)⟩
  case round =>
    obtain ⟨k, rfl, hk, HE, HG⟩ := hrel
    have hV : LibV wr := HT.out.keep HG.out.size fun q hq => HG.out.block q (Nat.lt_of_lt_of_le hq HT.out.2.2) (fun e => by injection e; omega)
    obtain ⟨m, hm⟩ := hV.2.1
    have hI := Any.strings_Index Tryd.lays143 (t.extract k t.size) p m wr (by simp; omega) hm
    have hdl : (t.extract k t.size).data.toList = (bs t).drop k := by
      show ((t.extract k t.size).data).toList = _
      rw [ByteArray.data_extract, Array.toList_extract]
      simp [bs, List.extract_eq_take_drop]
      rw [List.take_of_length_le (by simp)]
    rw [hdl] at hI
    have hwe : wr.cell? ⟨be, 0, none⟩ = some (.slice (some ⟨ge, 0, none⟩) t.size t.size) := (World.cell?_of_block (a := ⟨be, 0, none⟩) (HG.out.block be hl1 (fun e => hne1 (Option.some.inj e)))).trans HC.out.1
    have hwp : wr.cell? ⟨bp, 0, none⟩ = some (.string p) := (World.cell?_of_block (a := ⟨bp, 0, none⟩) (HG.out.block bp hl2 (fun e => hne2 (Option.some.inj e)))).trans HC.out.2
    have hps : (bs p).length = p.size := bs_len p
    have hts : (bs t).length = t.size := bs_len t
    rcases Lib.index_spec ((bs t).drop k) p.data.toList with ⟨hx, hno⟩ | ⟨i, hx, hi, ho, hfirst⟩
    · rw [hx] at hI
      have HF := Lib.hid (HE.out.congr (f' := fun j => if WM.occ (bs t) (bs p) j = true then max (f j) (j + p.size) else f j) fun j hj => by
        by_cases hjk : j < k
        · simp [hjk]
        · have hnj : WM.occ (bs t) (bs p) j = false := by
            have := hno (j - k) (by simp; omega)
            have e := WM.occ_drop (bs t) (bs p) k (j - k)
            rw [show k + (j - k) = j by omega] at e
            rw [← e]
            exact this
          simp [hnj])
      clear hx hno hm hV hdl hwe hwp
      go_wp2_with fail
      refine hI.mono ?_
      rintro e w' ⟨rfl, rfl⟩
      go_wp2_with fail
      go_end0
      exact ⟨rfl, HF.out, HG.out⟩
    · rw [hx] at hI
      have hok : WM.occ (bs t) (bs p) (k + i) = true := by rw [← WM.occ_drop]; exact ho
      have hroom := WM.occ_room hok (by omega)
      have hN := note_any (j := k + i) HE.out hwe hwp (by omega) (by omega) hp2
      have HF := Lib.hid (fun W (hW : Ends W ge t.size _) => (hW : Ends W ge t.size (fun q => if q = k + i then max (if k + i < k ∧ WM.occ (bs t) (bs p) (k + i) = true then max (f (k + i)) (k + i + p.size) else f (k + i)) (k + i + p.size) else if q < k ∧ WM.occ (bs t) (bs p) q = true then max (f q) (q + p.size) else f q)).congr (f' := fun j => if j < k + (i + 1) ∧ WM.occ (bs t) (bs p) j = true then max (f j) (j + p.size) else f j) fun j hj => by
        by_cases e1 : j = k + i
        · subst e1
          rw [if_pos rfl, if_neg (by omega), if_pos ⟨by omega, hok⟩]
        · rw [if_neg e1]
          by_cases hjk : j < k
          · by_cases hq : WM.occ (bs t) (bs p) j = true
            · rw [if_pos ⟨hjk, hq⟩, if_pos ⟨by omega, hq⟩]
            · rw [if_neg (fun h => hq h.2), if_neg (fun h => hq h.2)]
          · rw [if_neg (fun h => hjk h.1)]
            by_cases hj2 : j < k + i
            · have hnj : WM.occ (bs t) (bs p) j = false := by
                have := hfirst (j - k) (by omega)
                have e := WM.occ_drop (bs t) (bs p) k (j - k)
                rw [show k + (j - k) = j by omega] at e
                rw [← e]
                exact this
              rw [if_neg (fun h => by rw [hnj] at h; cases h.2)]
            · rw [if_neg (fun h => by omega)])
      have hki : Hid (k + i < t.size) := Lib.hid (by omega)
      have hkb : k + i ≤ 1000000 := by omega
      clear hx hm hV hdl hwe hwp ho hfirst hok hroom hi
      go_wp2_with fail
      refine hI.mono ?_
      rintro e w' ⟨rfl, rfl⟩
      rw [show (((k + i : Nat) : Int)) = (k : Int) + (i : Int) by simp] at hN
      clear hI
      go_wp2_with fail
      refine hN.mono ?_
      rintro e w' ⟨rfl, hE2, hg2⟩
      have HE2 := Lib.hid (HF.out _ hE2)
      have HG2 := Lib.hid (HG.out.trans hg2)
      clear hN hE2 hg2 HF
      go_wp2_with fail
      exact ⟨⟨k + (i + 1), by simp, by have := hki.out; omega, HE2, HG2⟩, by simp [intOf]; have := hki.out; omega⟩
end Go.Proofs.YtopdpooflihlpaaDoor
