/- The shingles of a string; Shingles at a wrong k. -/
import Derived.Test.YtplocijdbadcjaaGreatDoorShing
import Derived.Test.YtplocijdbadcjaaGreatDoorSetM
namespace WM
theorem wt_all (m : Nat) : ∀ l : List ByteArray, (∀ x ∈ l, x.size ≤ m) → wt l ≤ l.length * (m + 1)
  | [], _ => by simp [wt]
  | x :: l, h => by
    have h1 := wt_all m l (fun y hy => h y (by simp [hy]))
    have h2 := h x (by simp)
    simp only [wt, List.length_cons, Nat.succ_mul]
    omega
end WM
namespace Go.Proofs.YtplocijdbadcjaaGreatDoor
open Go.RowKit

/-- the shingles of a string -/
def shs (a : ByteArray) (k : Nat) : List ByteArray := WM.shing (WM.words a) k
theorem shs_asc (a : ByteArray) (k : Nat) : WM.Asc (WM.bl (shs a k)) := by
  unfold shs WM.shing
  split
  · exact List.Pairwise.nil
  · unfold WM.compS WM.sortS
    rw [WM.bl_toB, WM.bl_toB]
    exact WM.ups_asc _
theorem runs_le' (s : ByteArray) : (WM.runs WM.wordB s).length ≤ s.size + 1 := by
  have : ∀ (f pos : Nat) (st : Option Nat) (acc : List (Nat × Nat)), (WM.runsB WM.wordB s f pos st acc).1.length ≤ acc.length + f := by
    intro f
    induction f with
    | zero => intro pos st acc; simp [WM.runsB]
    | succ f ih =>
      intro pos st acc
      by_cases h : pos < s.size
      · cases hq : WM.wordB (s.get! pos)
        · rw [WM.runsB_no h hq]
          have := ih (pos + 1) none (WM.nxt acc st pos)
          have h2 : (WM.nxt acc st pos).length ≤ acc.length + 1 := by cases st <;> simp [WM.nxt]
          omega
        · rw [WM.runsB_yes h hq]
          have := ih (pos + 1) (some (st.getD pos)) acc
          omega
      · rw [WM.runsB_end _ _ _ _ _ _ h]; simp
  have := this s.size 0 none []
  unfold WM.runs Lib.closeSpans
  rcases h : WM.runsB WM.wordB s s.size 0 none [] with ⟨a, b⟩
  rw [h] at this
  cases b <;> simp at this ⊢ <;> omega
theorem words_wt (s : ByteArray) (hs : s.size ≤ 20000) : WM.wt (WM.words s) ≤ 1000000000 := by
  have h1 := WM.wt_all s.size (WM.words s) (fun x hx => by
    unfold WM.words at hx
    obtain ⟨p, hp, rfl⟩ := List.mem_map.1 hx
    rw [WM.small_size]
    simp; omega)
  have h2 := runs_le' s
  have h3 : (WM.words s).length = (WM.runs WM.wordB s).length := by simp [WM.words]
  rw [h3] at h1
  have h4 : (WM.runs WM.wordB s).length * (s.size + 1) ≤ 20001 * 20001 := Nat.mul_le_mul (by omega) (by omega)
  omega
theorem shs_len (a : ByteArray) (k : Nat) (ha : a.size ≤ 20000) : (shs a k).length ≤ 20002 := by
  have h2 := runs_le' a
  have h3 : (WM.words a).length = (WM.runs WM.wordB a).length := by simp [WM.words]
  unfold shs WM.shing
  split
  · simp
  · unfold WM.compS
    rw [WM.toB_len]
    have := WM.compact_len (WM.bl (WM.sortS (WM.wins (WM.words a) (min k (WM.words a).length))))
    rw [WM.bl_len, WM.sortS_len] at this
    have hw : (WM.wins (WM.words a) (min k (WM.words a).length)).length = (WM.words a).length + 1 - min k (WM.words a).length := by simp [WM.wins]
    rw [hw] at this
    omega
set_option maxHeartbeats 2000000 in
theorem Shingles_bad (s : ByteArray) (hs : s.size ≤ 20000) (k : Int) (hk : (decide (1 ≤ k) && decide (k ≤ 10)) = false) (w : World) :
    Calls Tryz.prog 16 #[.string s, .int .i64 k] w (ShSays [] 1 w) := by
  have hR := isRun_any k false hk w
  clear hk
  go_enter Tryz.func16, Tryz.ntmps16
  go_wp2_with fail
  refine hR.mono ?_
  rintro e w1 ⟨rfl, rfl⟩
  go_wp2_with fail
  go_ret2
  exact ⟨.slice none 0 0, rfl, OwnS.nil _ _, Below.refl _ _⟩
end Go.Proofs.YtplocijdbadcjaaGreatDoor
