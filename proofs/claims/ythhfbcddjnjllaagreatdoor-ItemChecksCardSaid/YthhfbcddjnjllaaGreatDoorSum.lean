/- Contracts of the words of kinds, sumOf, Sum and SumOf. -/
import Derived.Test.YthhfbcddjnjllaaGreatDoorItem
import Derived.Test.YthhfbcddjnjllaaGreatDoorFormat
import Derived.BigQuiet
import Derived.Deep.QuietTactic
import Derived.Deep.RegionLaw
namespace Go.Proofs.YthhfbcddjnjllaaGreatDoor
open Go.RowKit

def KM.word (n : Int) : List UInt8 := if n = 1 then [109, 97, 105, 108] else if n = 2 then [102, 105, 108, 101] else if n = 3 then [98, 111, 120] else if n = 4 then [110, 111, 116, 101] else []
theorem word_any (n : Int) (w : World) : Calls Tryz.prog 78 #[.int .i64 n] w (fun e w' => e = .returned (.string ⟨(KM.word n).toArray⟩) ∧ w' = w) := by
  by_cases h1 : n = 1
  · subst h1
    go_enter Tryz.func78, Tryz.ntmps78
    go_wp2_with fail
    go_ret
    exact ⟨rfl, rfl⟩
  by_cases h2 : n = 2
  · subst h2
    go_enter Tryz.func78, Tryz.ntmps78
    go_wp2_with fail
    go_ret
    exact ⟨rfl, rfl⟩
  by_cases h3 : n = 3
  · subst h3
    go_enter Tryz.func78, Tryz.ntmps78
    go_wp2_with fail
    go_ret
    exact ⟨rfl, rfl⟩
  by_cases h4 : n = 4
  · subst h4
    go_enter Tryz.func78, Tryz.ntmps78
    go_wp2_with fail
    go_ret
    exact ⟨rfl, rfl⟩
  have e1 : (n == 1) = false := beq_eq_false_iff_ne.2 h1
  have e2 : (n == 2) = false := beq_eq_false_iff_ne.2 h2
  have e3 : (n == 3) = false := beq_eq_false_iff_ne.2 h3
  have e4 : (n == 4) = false := beq_eq_false_iff_ne.2 h4
  go_enter Tryz.func78, Tryz.ntmps78
  go_wp2_with fail
  go_ret
  exact ⟨by simp [KM.word, h1, h2, h3, h4], rfl⟩
set_option maxRecDepth 100000 in
theorem wordR_any (n : Int) (h : KM.kind n = true) (w : World) : Calls Tryz.prog 83 #[.int .i64 n] w (fun e w' => e = .returned (.string ⟨(KM.word n).toArray⟩) ∧ w' = w) := by
  have hn : n = 1 ∨ n = 2 ∨ n = 3 ∨ n = 4 := by unfold KM.kind at h; simp at h; omega
  have e1 : (Instr.index 191 (.agg #[.string ⟨#[]⟩, .string ⟨#[109, 97, 105, 108]⟩, .string ⟨#[102, 105, 108, 101]⟩, .string ⟨#[98, 111, 120]⟩, .string ⟨#[110, 111, 116, 101]⟩]) (.int .i64 1)).run Tryz.prog w = .ok (.string ⟨#[109, 97, 105, 108]⟩) w := by kernel_rfl
  have e2 : (Instr.index 191 (.agg #[.string ⟨#[]⟩, .string ⟨#[109, 97, 105, 108]⟩, .string ⟨#[102, 105, 108, 101]⟩, .string ⟨#[98, 111, 120]⟩, .string ⟨#[110, 111, 116, 101]⟩]) (.int .i64 2)).run Tryz.prog w = .ok (.string ⟨#[102, 105, 108, 101]⟩) w := by kernel_rfl
  have e3 : (Instr.index 191 (.agg #[.string ⟨#[]⟩, .string ⟨#[109, 97, 105, 108]⟩, .string ⟨#[102, 105, 108, 101]⟩, .string ⟨#[98, 111, 120]⟩, .string ⟨#[110, 111, 116, 101]⟩]) (.int .i64 3)).run Tryz.prog w = .ok (.string ⟨#[98, 111, 120]⟩) w := by kernel_rfl
  have e4 : (Instr.index 191 (.agg #[.string ⟨#[]⟩, .string ⟨#[109, 97, 105, 108]⟩, .string ⟨#[102, 105, 108, 101]⟩, .string ⟨#[98, 111, 120]⟩, .string ⟨#[110, 111, 116, 101]⟩]) (.int .i64 4)).run Tryz.prog w = .ok (.string ⟨#[110, 111, 116, 101]⟩) w := by kernel_rfl
  rcases hn with rfl | rfl | rfl | rfl
  · go_enter Tryz.func83, Tryz.ntmps83
    go_wp2_with fail
    go_ret
    exact ⟨rfl, rfl⟩
  · go_enter Tryz.func83, Tryz.ntmps83
    go_wp2_with fail
    go_ret
    exact ⟨rfl, rfl⟩
  · go_enter Tryz.func83, Tryz.ntmps83
    go_wp2_with fail
    go_ret
    exact ⟨rfl, rfl⟩
  · go_enter Tryz.func83, Tryz.ntmps83
    go_wp2_with fail
    go_ret
    exact ⟨rfl, rfl⟩
def It.sum (x : It) : List UInt8 := QM.digest (KM.word x.kind ++ [10] ++ x.text.data.toList)
def SaysS' (l : List UInt8) (w : World) (e : Ending) (w' : World) : Prop := e = .returned (.string ⟨l.toArray⟩) ∧ Below w.heap.size w w'
theorem KM.word_len (n : Int) : (KM.word n).length ≤ 4 := by unfold KM.word; (repeat' split) <;> decide
theorem sum_str (k : Int) (t : ByteArray) : ((⟨(KM.word k).toArray⟩ : ByteArray) ++ (⟨#[10]⟩ : ByteArray) ++ t).data.toList = KM.word k ++ [10] ++ t.data.toList := by
  rw [ByteArray.data_append, ByteArray.data_append]; simp
set_option maxHeartbeats 2000000 in
theorem SumOf_any (x : It) (hx : x.small) (hk : KM.kind x.kind = true) (w : World) (hT : Tabs w) : Calls Tryz.prog 18 #[.agg x.cells] w (SaysB x.sum w) := by
  obtain ⟨z0, z1, z3, z5, z6⟩ := hx
  have hl := KM.word_len x.kind
  have hD := fun w => DigestOf_any ((⟨(KM.word x.kind).toArray⟩ : ByteArray) ++ (⟨#[10]⟩ : ByteArray) ++ x.text) (by rw [ByteArray.size_append, ByteArray.size_append]; simp only [ByteArray.size, Array.size] at *; simp only [List.length]; omega) w
  rw [sum_str] at hD
  go_enter Tryz.func18, Tryz.ntmps18
  go_upto_region 1 with (fail)
  have hI := InItem.start x w 30 hT
  revert hI
  generalize (w.alloc (.cells x.cells 30)) = w1
  intro hI
  obtain ⟨c0, c1, c2, c3, c4, c5, c6⟩ := id hI.box
  have e1 : (x.kind, x.kind) = (x.kind, x.kind) := rfl
  go_quiet (first | (refine Calls.quiet_of_same (wordR_any _ hk _)) | (refine Calls.quiet_of (hD _)))
  go_wp2_with fail
  go_ret
  exact ⟨by show Ending.returned (.string ⟨(QM.digest (KM.word x.kind ++ 10 :: x.text.data.toList)).toArray⟩) = _; simp [It.sum], below_drewN hI.below nq⟩
end Go.Proofs.YthhfbcddjnjllaaGreatDoor
