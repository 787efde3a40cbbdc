/- Contracts of sumOf and Sum. -/
import Derived.Test.YthhfbcddjnjllaaGreatDoorSum
import Derived.Deep.RegionHeld3
namespace Go.Proofs.YthhfbcddjnjllaaGreatDoor
open Go.RowKit

theorem below_drew' (w : World) : Below w.heap.size w w.drew := below_drewN (Below.refl _ _) 1
set_option maxRecDepth 100000 in
set_option maxHeartbeats 2000000 in
theorem sumOf_any (x : It) (hx : x.small) (w : World) (hT : Tabs w) (hL : LaidT w) : Calls Tryz.prog 73 #[.agg x.cells] w (SaysB x.sum w) := by
  obtain ⟨z0, z1, z3, z5, z6⟩ := hx
  have hl := KM.word_len x.kind
  have hD := fun w hL => Digest_any ((⟨(KM.word x.kind).toArray⟩ : ByteArray) ++ (⟨#[10]⟩ : ByteArray) ++ x.text) (by rw [ByteArray.size_append, ByteArray.size_append]; simp only [ByteArray.size, Array.size] at *; simp only [List.length]; omega) w hL
  rw [sum_str] at hD
  have hLlt := hL.lt
  have q1 : ¬ 9223372036854775807 < (KM.word x.kind).length + 1 := by omega
  have q2 : ¬ 9223372036854775807 < (KM.word x.kind).length + 1 + x.text.size := by omega
  clear hl z0 z1 z3 z5 z6
  go_enter Tryz.func73, Tryz.ntmps73
  go_upto_region 1 with (fail)
  have hI := InItem.start x w 30 hT
  revert hI
  generalize (w.alloc (.cells x.cells 30)) = w1
  intro hI
  have hI2 : InItem x w w1.drew := hI.step (below_drew' w1)
  have c2 := hI.box.c2
  have c6 := hI.box.c6
  have e2 := hI2.box.c2
  have e6 := hI2.box.c6
  have hL2 : LaidT w1.drew := hL.below hI2.below hLlt
  have hD1 := hD _ hL2
  have hW1 := word_any x.kind w1.drew
  go_region_held3 (fun w' => w'.cell? ⟨w.heap.size, 2, none⟩ = some (.int .i64 x.kind) ∧ w'.cell? ⟨w.heap.size, 6, none⟩ = some (.string x.text))
    (first | (with_reducible exact ⟨c2, c6⟩) | (with_reducible exact ⟨e2, e6⟩) | (with_reducible exact ⟨g2, g6⟩))
    (first | ((with_reducible refine hW1.mono ?_); rintro e w2 ⟨rfl, rfl⟩) | ((with_reducible refine hD1.mono ?_); rintro e w3 ⟨rfl, hw3⟩; replace hI2 := hI2.step hw3; have g2 := hI2.box.c2; have g6 := hI2.box.c6))
  go_wp2_with fail
  go_ret
  exact ⟨by show Ending.returned (.string ⟨(QM.digest (KM.word x.kind ++ 10 :: x.text.data.toList)).toArray⟩) = _; simp [It.sum], hI2.below⟩

/-- the sum of a right item, nothing of a wrong one -/
def It.sums (x : It) : List UInt8 := if x.fault = 0 then x.sum else []
def SaysSF (x : It) (w : World) (e : Ending) (w' : World) : Prop := e = .returned (.tuple #[.string ⟨x.sums.toArray⟩, .int .i64 x.fault]) ∧ Below w.heap.size w w'
theorem says_sf {x : It} {s : List UInt8} {f : Int} {w w' : World} (h1 : s = x.sums) (h2 : f = x.fault) (hb : Below w.heap.size w w') : SaysSF x w (.returned (.tuple #[.string ⟨s.toArray⟩, .int .i64 f])) w' := ⟨by rw [h1, h2], hb⟩
set_option maxHeartbeats 2000000 in
theorem Sum_any (x : It) (hx : x.small) (w : World) (hT : Tabs w) (hL : LaidT w) : Calls Tryz.prog 15 #[.agg x.cells] w (SaysSF x w) := by
  have hLlt := hL.lt
  go_enter Tryz.func15, Tryz.ntmps15
  go_upto_region 1 with (fail)
  have hI := InItem.start x w 30 hT
  revert hI
  generalize (w.alloc (.cells x.cells 30)) = w1
  intro hI
  obtain ⟨c0, c1, c2, c3, c4, c5, c6⟩ := id hI.box
  go_wp2_with fail
  refine (CheckItem_any x hx _ hI.tabs).mono ?_
  rintro e w2 ⟨rfl, hw2⟩
  replace hI := hI.step hw2
  clear hw2 c0 c1 c2 c3 c4 c5 c6
  obtain ⟨f, hf⟩ : ∃ f, x.fault = f := ⟨_, rfl⟩
  rw [hf]
  have HF := Lib.hid hf
  clear hf
  by_cases h0 : f = 0
  · subst h0
    have HS : Hid (x.sums = x.sum) := by show _ = _; unfold It.sums; rw [if_pos HF.out]
    obtain ⟨c0, c1, c2, c3, c4, c5, c6⟩ := id hI.box
    go_wp2_with fail
    refine (sumOf_any x hx _ hI.tabs (hL.below hI.below hLlt)).mono ?_
    rintro e w3 ⟨rfl, hw3⟩
    replace hI := hI.step hw3
    clear hw3 c0 c1 c2 c3 c4 c5 c6
    go_wp2_with fail
    go_ret2
    exact says_sf HS.out.symm HF.out.symm hI.below
  · have q : (f != 0) = true := bne_iff_ne.2 h0
    have HS : Hid (x.sums = []) := by show _ = _; unfold It.sums; rw [if_neg (by rw [HF.out]; exact h0)]
    clear h0
    go_wp2_with fail
    go_ret2
    exact says_sf (s := []) HS.out.symm HF.out.symm hI.below
end Go.Proofs.YthhfbcddjnjllaaGreatDoor
