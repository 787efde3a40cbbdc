/- Contracts of near.resemblance, of near.Containment's closure, of near.measure, Resemblance, Containment. -/
import Derived.Test.YthgembgincaapaaFrac
import Derived.Test.YthgembgincaapaaShing
import Derived.Test.YthgembgincaapaaBlk
namespace WM
def like (X Y : List ByteArray) : Nat × Nat := frac (cnt (bl X) (bl Y)) (X.length + Y.length - cnt (bl X) (bl Y))
def cont (X Y : List ByteArray) : Nat × Nat := frac (cnt (bl X) (bl Y)) X.length
theorem wt_all (m : Nat) : ∀ l : List ByteArray, (∀ x ∈ l, x.size ≤ m) → wt l ≤ l.length * (m + 1)
  | [], _ => by simp [wt]
  | x :: l, h => by
    have h1 := wt_all m l (fun y hy => h y (by simp [hy]))
    have h2 := h x (by simp)
    simp only [wt, List.length_cons, Nat.succ_mul]
    omega
end WM
namespace Go.Proofs.Ythgembgincaapaa
open Go.RowKit

/-- the shingles of a string -/
def shs (a : ByteArray) (k : Nat) : List ByteArray := WM.shing (WM.words a) k
theorem shs_asc (a : ByteArray) (k : Nat) : WM.Asc (WM.bl (shs a k)) := by
  unfold shs WM.shing
  split
  · exact List.Pairwise.nil
  · unfold WM.compS WM.sortS
    rw [WM.bl_toB, WM.bl_toB]
    exact WM.ups_asc _
theorem runs_le' (s : ByteArray) : (WM.runs WM.wordB s).length ≤ s.size + 1 := by
  have : ∀ (f pos : Nat) (st : Option Nat) (acc : List (Nat × Nat)), (WM.runsB WM.wordB s f pos st acc).1.length ≤ acc.length + f := by
    intro f
    induction f with
    | zero => intro pos st acc; simp [WM.runsB]
    | succ f ih =>
      intro pos st acc
      by_cases h : pos < s.size
      · cases hq : WM.wordB (s.get! pos)
        · rw [WM.runsB_no h hq]
          have := ih (pos + 1) none (WM.nxt acc st pos)
          have h2 : (WM.nxt acc st pos).length ≤ acc.length + 1 := by cases st <;> simp [WM.nxt]
          omega
        · rw [WM.runsB_yes h hq]
          have := ih (pos + 1) (some (st.getD pos)) acc
          omega
      · rw [WM.runsB_end _ _ _ _ _ _ h]; simp
  have := this s.size 0 none []
  unfold WM.runs Lib.closeSpans
  rcases h : WM.runsB WM.wordB s s.size 0 none [] with ⟨a, b⟩
  rw [h] at this
  cases b <;> simp at this ⊢ <;> omega
theorem words_wt (s : ByteArray) (hs : s.size ≤ 20000) : WM.wt (WM.words s) ≤ 1000000000 := by
  have h1 := WM.wt_all s.size (WM.words s) (fun x hx => by
    unfold WM.words at hx
    obtain ⟨p, hp, rfl⟩ := List.mem_map.1 hx
    rw [WM.small_size]
    simp; omega)
  have h2 := runs_le' s
  have h3 : (WM.words s).length = (WM.runs WM.wordB s).length := by simp [WM.words]
  rw [h3] at h1
  have h4 : (WM.runs WM.wordB s).length * (s.size + 1) ≤ 20001 * 20001 := Nat.mul_le_mul (by omega) (by omega)
  omega
theorem shs_len (a : ByteArray) (k : Nat) (ha : a.size ≤ 20000) : (shs a k).length ≤ 20002 := by
  have h2 := runs_le' a
  have h3 : (WM.words a).length = (WM.runs WM.wordB a).length := by simp [WM.words]
  unfold shs WM.shing
  split
  · simp
  · unfold WM.compS
    rw [WM.toB_len]
    have := WM.compact_len (WM.bl (WM.sortS (WM.wins (WM.words a) (min k (WM.words a).length))))
    rw [WM.bl_len, WM.sortS_len] at this
    have hw : (WM.wins (WM.words a) (min k (WM.words a).length)).length = (WM.words a).length + 1 - min k (WM.words a).length := by simp [WM.wins]
    rw [hw] at this
    omega
theorem like_any {w : World} {b1 b2 : Nat} {v1 v2 : Value} {X Y : List ByteArray} (h1 : OwnS w b1 v1 X) (h2 : OwnS w b2 v2 Y) (hX : WM.Asc (WM.bl X)) (hY : WM.Asc (WM.bl Y)) (hl1 : X.length ≤ 100000000) (hl2 : Y.length ≤ 100000000) :
    Calls Try.prog 26 #[v1, v2] w (FracSays (WM.like X Y) w) := by
  have hS := fun o => Shared_any (h1.alloc o) (h2.alloc o) hX hY
  obtain ⟨A1, c1, rfl, _⟩ := h1.form
  obtain ⟨A2, c2, rfl, _⟩ := h2.form
  have hc := WM.cnt_le (WM.bl X) (WM.bl Y)
  rw [WM.bl_len] at hc
  unfold WM.like
  generalize WM.cnt (WM.bl X) (WM.bl Y) = c at *
  have hP := part_any c (X.length + Y.length - c) (by omega) (by omega)
  have hz : ((X.length : Int) + (Y.length : Int)) - (c : Int) = ((X.length + Y.length - c : Nat) : Int) := by omega
  generalize X.length + Y.length - c = d at *
  generalize WM.frac c d = p at *
  clear hX hY h1 h2
  go_enter Try.func26, Try.ntmps26
  go_wp2_with fail
  refine (hS _).mono ?_
  rintro e w1 ⟨rfl, q, rfl⟩
  clear hS
  go_wp2_with fail
  refine (hP _).mono ?_
  rintro e w2 ⟨rfl, hb⟩
  have hblk : Blk w2 w.heap.size 34 #[.int .i64 0, .int .i64 0] := (Blk.drewN (Blk.new w 34 #[.int .i64 0, .int .i64 0]) q).below hb (by simp)
  have hd0 := hblk.cell 0
  have hd1 := hblk.cell 1
  have hf0 := hblk.frozen 0
  have hf1 := hblk.frozen 1
  have hl := hblk.lt
  simp at hd0 hd1
  unfold fracV
  have HB := Lib.hid hblk
  clear hblk
  go_wp2_with fail
  refine bodyPost_ret (v := .agg #[.int .i64 p.1, .int .i64 p.2]) (by simp [results, Try.results26, go_sem, hd0, hd1]) rfl ⟨rfl, ?_⟩
  exact (((below_drewN ((Below.refl _ _).alloc (Nat.le_refl _) _) q).trans (hb.mono (by simp))).setCell (p := ⟨w.heap.size, 0, none⟩) (Nat.le_refl _) _).setCell (p := ⟨w.heap.size, 1, none⟩) (Nat.le_refl _) _
theorem cont_any {w : World} {b1 b2 : Nat} {v1 v2 : Value} {X Y : List ByteArray} (h1 : OwnS w b1 v1 X) (h2 : OwnS w b2 v2 Y) (hX : WM.Asc (WM.bl X)) (hY : WM.Asc (WM.bl Y)) (hl1 : X.length ≤ 100000000) (_ : Y.length ≤ 100000000) :
    Calls Try.prog 27 #[v1, v2] w (FracSays (WM.cont X Y) w) := by
  have hS := fun o => Shared_any (h1.alloc o) (h2.alloc o) hX hY
  obtain ⟨A1, c1, rfl, _⟩ := h1.form
  obtain ⟨A2, c2, rfl, _⟩ := h2.form
  have hc := WM.cnt_le (WM.bl X) (WM.bl Y)
  rw [WM.bl_len] at hc
  unfold WM.cont
  generalize WM.cnt (WM.bl X) (WM.bl Y) = c at *
  have hP := part_any c X.length (by omega) (by omega)
  generalize WM.frac c X.length = p at *
  clear hX hY h1 h2
  go_enter Try.func27, Try.ntmps27
  go_wp2_with fail
  refine (hS _).mono ?_
  rintro e w1 ⟨rfl, q, rfl⟩
  clear hS
  go_wp2_with fail
  refine (hP _).mono ?_
  rintro e w2 ⟨rfl, hb⟩
  have hblk : Blk w2 w.heap.size 34 #[.int .i64 0, .int .i64 0] := (Blk.drewN (Blk.new w 34 #[.int .i64 0, .int .i64 0]) q).below hb (by simp)
  have hd0 := hblk.cell 0
  have hd1 := hblk.cell 1
  have hf0 := hblk.frozen 0
  have hf1 := hblk.frozen 1
  have hl := hblk.lt
  simp at hd0 hd1
  unfold fracV
  have HB := Lib.hid hblk
  clear hblk
  go_wp2_with fail
  refine bodyPost_ret (v := .agg #[.int .i64 p.1, .int .i64 p.2]) (by simp [results, Try.results27, go_sem, hd0, hd1]) rfl ⟨rfl, ?_⟩
  exact (((below_drewN ((Below.refl _ _).alloc (Nat.le_refl _) _) q).trans (hb.mono (by simp))).setCell (p := ⟨w.heap.size, 0, none⟩) (Nat.le_refl _) _).setCell (p := ⟨w.heap.size, 1, none⟩) (Nat.le_refl _) _

set_option maxHeartbeats 2000000 in
theorem Shingles_bad (s : ByteArray) (hs : s.size ≤ 20000) (k : Int) (hk : (decide (1 ≤ k) && decide (k ≤ 10)) = false) (w : World) :
    Calls Try.prog 7 #[.string s, .int .i64 k] w (ShSays [] 1 w) := by
  have hR := isRun_any k false hk w
  clear hk
  go_enter Try.func7, Try.ntmps7
  go_wp2_with fail
  refine hR.mono ?_
  rintro e w1 ⟨rfl, rfl⟩
  go_wp2_with fail
  go_ret2
  exact ⟨.slice none 0 0, rfl, OwnS.nil _ _, Below.refl _ _⟩
/-- a fraction and a code are answered; what lay, lies -/
def MeasSays (p : Nat × Nat) (c : Int) (w : World) (e : Ending) (w' : World) : Prop := e = .returned (.tuple #[fracV p, .int .i64 c]) ∧ Below w.heap.size w w'

set_option maxHeartbeats 2000000 in
theorem measureL_ok (a b : ByteArray) (ha : a.size ≤ 20000) (hb : b.size ≤ 20000) (k : Nat) (hk1 : 1 ≤ k) (hk2 : k ≤ 10) (w : World) :
    Calls Try.prog 25 #[.string a, .string b, .int .i64 k, .func (.func 26) #[] #[]] w (MeasSays (WM.like (shs a k) (shs b k)) 0 w) := by
  have eg := enters_of Try.func26 (by kernel_rfl) rfl
  have hA := fun W => Shingles_ok a ha k hk1 hk2 (words_wt a (by omega)) W
  have hB := fun W => Shingles_ok b hb k hk1 hk2 (words_wt b (by omega)) W
  clear hk1 hk2
  go_enter Try.func25, Try.ntmps25
  go_wp2_with fail
  refine (hA _).mono ?_
  rintro e w1 ⟨v1, rfl, ho1, hb1⟩
  have hs1 := hb1.size
  simp at hs1
  clear hA
  go_wp2_with fail
  refine (hB _).mono ?_
  rintro e w2 ⟨v2, rfl, ho2, hb2⟩
  have hs2 := hb2.size
  have hc : Below w.heap.size w w2 := (((Below.refl _ _).alloc (Nat.le_refl _) _).trans (hb1.mono (by simp))).trans (hb2.mono (by omega))
  have ho1' := ho1.below hb2 (Nat.le_refl _)
  have hblk : Blk w2 w.heap.size 34 #[.int .i64 0, .int .i64 0] := ((Blk.new w 34 #[.int .i64 0, .int .i64 0]).below hb1 (by simp)).below hb2 (by omega)
  have HW := Lib.hid (And.intro hc hblk)
  have HR := like_any ho1' ho2 (shs_asc a k) (shs_asc b k) (by have h : (WM.shing (WM.words a) k).length ≤ 20002 := shs_len a k ha; omega) (by have h : (WM.shing (WM.words b) k).length ≤ 20002 := shs_len b k hb; omega)
  clear ha hb hB ho1 ho1' ho2 hb1 hb2 hc hblk
  go_wp2_with fail
  refine HR.mono ?_
  rintro e w3 ⟨rfl, hb3⟩
  have hs3 := hb3.size
  have hblk3 := HW.out.2.below hb3 HW.out.2.lt
  have hc3 := HW.out.1.trans (hb3.mono HW.out.1.size)
  have hd0 := hblk3.cell 0
  have hd1 := hblk3.cell 1
  have hf0 := hblk3.frozen 0
  have hf1 := hblk3.frozen 1
  simp at hd0 hd1
  have HB3 := Lib.hid (And.intro hc3 hblk3)
  clear hblk3 hc3 HR
  unfold fracV
  go_wp2_with fail
  refine bodyPost_ret (v := .tuple #[.agg #[.int .i64 (WM.like (WM.shing (WM.words a) k) (WM.shing (WM.words b) k)).1, .int .i64 (WM.like (WM.shing (WM.words a) k) (WM.shing (WM.words b) k)).2], .int .i64 0]) (by simp [results, Try.results25, go_sem, hd0, hd1]) rfl ⟨rfl, ?_⟩
  exact (HB3.out.1.setCell (p := ⟨w.heap.size, 0, none⟩) (Nat.le_refl _) _).setCell (p := ⟨w.heap.size, 1, none⟩) (Nat.le_refl _) _
set_option maxHeartbeats 2000000 in
theorem measureC_ok (a b : ByteArray) (ha : a.size ≤ 20000) (hb : b.size ≤ 20000) (k : Nat) (hk1 : 1 ≤ k) (hk2 : k ≤ 10) (w : World) :
    Calls Try.prog 25 #[.string a, .string b, .int .i64 k, .func (.func 27) #[] #[]] w (MeasSays (WM.cont (shs a k) (shs b k)) 0 w) := by
  have eg := enters_of Try.func27 (by kernel_rfl) rfl
  have hA := fun W => Shingles_ok a ha k hk1 hk2 (words_wt a (by omega)) W
  have hB := fun W => Shingles_ok b hb k hk1 hk2 (words_wt b (by omega)) W
  clear hk1 hk2
  go_enter Try.func25, Try.ntmps25
  go_wp2_with fail
  refine (hA _).mono ?_
  rintro e w1 ⟨v1, rfl, ho1, hb1⟩
  have hs1 := hb1.size
  simp at hs1
  clear hA
  go_wp2_with fail
  refine (hB _).mono ?_
  rintro e w2 ⟨v2, rfl, ho2, hb2⟩
  have hs2 := hb2.size
  have hc : Below w.heap.size w w2 := (((Below.refl _ _).alloc (Nat.le_refl _) _).trans (hb1.mono (by simp))).trans (hb2.mono (by omega))
  have ho1' := ho1.below hb2 (Nat.le_refl _)
  have hblk : Blk w2 w.heap.size 34 #[.int .i64 0, .int .i64 0] := ((Blk.new w 34 #[.int .i64 0, .int .i64 0]).below hb1 (by simp)).below hb2 (by omega)
  have HW := Lib.hid (And.intro hc hblk)
  have HR := cont_any ho1' ho2 (shs_asc a k) (shs_asc b k) (by have h : (WM.shing (WM.words a) k).length ≤ 20002 := shs_len a k ha; omega) (by have h : (WM.shing (WM.words b) k).length ≤ 20002 := shs_len b k hb; omega)
  clear ha hb hB ho1 ho1' ho2 hb1 hb2 hc hblk
  go_wp2_with fail
  refine HR.mono ?_
  rintro e w3 ⟨rfl, hb3⟩
  have hs3 := hb3.size
  have hblk3 := HW.out.2.below hb3 HW.out.2.lt
  have hc3 := HW.out.1.trans (hb3.mono HW.out.1.size)
  have hd0 := hblk3.cell 0
  have hd1 := hblk3.cell 1
  have hf0 := hblk3.frozen 0
  have hf1 := hblk3.frozen 1
  simp at hd0 hd1
  have HB3 := Lib.hid (And.intro hc3 hblk3)
  clear hblk3 hc3 HR
  unfold fracV
  go_wp2_with fail
  refine bodyPost_ret (v := .tuple #[.agg #[.int .i64 (WM.cont (WM.shing (WM.words a) k) (WM.shing (WM.words b) k)).1, .int .i64 (WM.cont (WM.shing (WM.words a) k) (WM.shing (WM.words b) k)).2], .int .i64 0]) (by simp [results, Try.results25, go_sem, hd0, hd1]) rfl ⟨rfl, ?_⟩
  exact (HB3.out.1.setCell (p := ⟨w.heap.size, 0, none⟩) (Nat.le_refl _) _).setCell (p := ⟨w.heap.size, 1, none⟩) (Nat.le_refl _) _
set_option maxHeartbeats 2000000 in
theorem measureL_bad (a b : ByteArray) (ha : a.size ≤ 20000) (k : Int) (hk : (decide (1 ≤ k) && decide (k ≤ 10)) = false) (w : World) :
    Calls Try.prog 25 #[.string a, .string b, .int .i64 k, .func (.func 26) #[] #[]] w (MeasSays (0, 0) 1 w) := by
  have hA := fun W => Shingles_bad a ha k hk W
  clear hk ha
  go_enter Try.func25, Try.ntmps25
  go_wp2_with fail
  refine (hA _).mono ?_
  rintro e w1 ⟨v1, rfl, ho1, hb1⟩
  have hs1 := hb1.size
  simp at hs1
  have hblk : Blk w1 w.heap.size 34 #[.int .i64 0, .int .i64 0] := (Blk.new w 34 #[.int .i64 0, .int .i64 0]).below hb1 (by simp)
  have HB := Lib.hid (((Below.refl _ _).alloc (Nat.le_refl _) _).trans (hb1.mono (by simp)) : Below w.heap.size w w1)
  have hd0 := hblk.cell 0
  have hd1 := hblk.cell 1
  have hf0 := hblk.frozen 0
  have hf1 := hblk.frozen 1
  simp at hd0 hd1
  clear hA ho1 hb1 hblk
  go_wp2_with fail
  refine bodyPost_ret (v := .tuple #[.agg #[.int .i64 0, .int .i64 0], .int .i64 1]) (by simp [results, Try.results25, go_sem, hd0, hd1]) rfl ⟨rfl, ?_⟩
  exact (HB.out.setCell (p := ⟨w.heap.size, 0, none⟩) (Nat.le_refl _) _).setCell (p := ⟨w.heap.size, 1, none⟩) (Nat.le_refl _) _
set_option maxHeartbeats 2000000 in
theorem measureC_bad (a b : ByteArray) (ha : a.size ≤ 20000) (k : Int) (hk : (decide (1 ≤ k) && decide (k ≤ 10)) = false) (w : World) :
    Calls Try.prog 25 #[.string a, .string b, .int .i64 k, .func (.func 27) #[] #[]] w (MeasSays (0, 0) 1 w) := by
  have hA := fun W => Shingles_bad a ha k hk W
  clear hk ha
  go_enter Try.func25, Try.ntmps25
  go_wp2_with fail
  refine (hA _).mono ?_
  rintro e w1 ⟨v1, rfl, ho1, hb1⟩
  have hs1 := hb1.size
  simp at hs1
  have hblk : Blk w1 w.heap.size 34 #[.int .i64 0, .int .i64 0] := (Blk.new w 34 #[.int .i64 0, .int .i64 0]).below hb1 (by simp)
  have HB := Lib.hid (((Below.refl _ _).alloc (Nat.le_refl _) _).trans (hb1.mono (by simp)) : Below w.heap.size w w1)
  have hd0 := hblk.cell 0
  have hd1 := hblk.cell 1
  have hf0 := hblk.frozen 0
  have hf1 := hblk.frozen 1
  simp at hd0 hd1
  clear hA ho1 hb1 hblk
  go_wp2_with fail
  refine bodyPost_ret (v := .tuple #[.agg #[.int .i64 0, .int .i64 0], .int .i64 1]) (by simp [results, Try.results25, go_sem, hd0, hd1]) rfl ⟨rfl, ?_⟩
  exact (HB.out.setCell (p := ⟨w.heap.size, 0, none⟩) (Nat.le_refl _) _).setCell (p := ⟨w.heap.size, 1, none⟩) (Nat.le_refl _) _
set_option maxHeartbeats 1000000 in
theorem Resemblance_any (a b : ByteArray) (k : Value) (p : Nat × Nat) (c : Int) (w : World) (hM : ∀ W, Calls Try.prog 25 #[.string a, .string b, k, .func (.func 26) #[] #[]] W (MeasSays p c W)) :
    Calls Try.prog 8 #[.string a, .string b, k] w (MeasSays p c w) := by
  go_enter Try.func8, Try.ntmps8
  go_wp2_with fail
  refine (hM _).mono ?_
  rintro e w1 ⟨rfl, hb1⟩
  have hs1 := hb1.size
  simp at hs1
  have hblk : Blk w1 w.heap.size 34 #[.int .i64 0, .int .i64 0] := (Blk.new w 34 #[.int .i64 0, .int .i64 0]).below hb1 (by simp)
  have HB := Lib.hid (((Below.refl _ _).alloc (Nat.le_refl _) _).trans (hb1.mono (by simp)) : Below w.heap.size w w1)
  have hd0 := hblk.cell 0
  have hd1 := hblk.cell 1
  have hf0 := hblk.frozen 0
  have hf1 := hblk.frozen 1
  simp at hd0 hd1
  clear hM hb1 hblk
  unfold fracV
  go_wp2_with fail
  refine bodyPost_ret (v := .tuple #[.agg #[.int .i64 p.1, .int .i64 p.2], .int .i64 c]) (by simp [results, Try.results8, go_sem, hd0, hd1]) rfl ⟨rfl, ?_⟩
  exact (HB.out.setCell (p := ⟨w.heap.size, 0, none⟩) (Nat.le_refl _) _).setCell (p := ⟨w.heap.size, 1, none⟩) (Nat.le_refl _) _
set_option maxHeartbeats 1000000 in
theorem Containment_any (a b : ByteArray) (k : Value) (p : Nat × Nat) (c : Int) (w : World) (hM : ∀ W, Calls Try.prog 25 #[.string a, .string b, k, .func (.func 27) #[] #[]] W (MeasSays p c W)) :
    Calls Try.prog 9 #[.string a, .string b, k] w (MeasSays p c w) := by
  go_enter Try.func9, Try.ntmps9
  go_wp2_with fail
  refine (hM _).mono ?_
  rintro e w1 ⟨rfl, hb1⟩
  have hs1 := hb1.size
  simp at hs1
  have hblk : Blk w1 w.heap.size 34 #[.int .i64 0, .int .i64 0] := (Blk.new w 34 #[.int .i64 0, .int .i64 0]).below hb1 (by simp)
  have HB := Lib.hid (((Below.refl _ _).alloc (Nat.le_refl _) _).trans (hb1.mono (by simp)) : Below w.heap.size w w1)
  have hd0 := hblk.cell 0
  have hd1 := hblk.cell 1
  have hf0 := hblk.frozen 0
  have hf1 := hblk.frozen 1
  simp at hd0 hd1
  clear hM hb1 hblk
  unfold fracV
  go_wp2_with fail
  refine bodyPost_ret (v := .tuple #[.agg #[.int .i64 p.1, .int .i64 p.2], .int .i64 c]) (by simp [results, Try.results9, go_sem, hd0, hd1]) rfl ⟨rfl, ?_⟩
  exact (HB.out.setCell (p := ⟨w.heap.size, 0, none⟩) (Nat.le_refl _) _).setCell (p := ⟨w.heap.size, 1, none⟩) (Nat.le_refl _) _
end Go.Proofs.Ythgembgincaapaa
