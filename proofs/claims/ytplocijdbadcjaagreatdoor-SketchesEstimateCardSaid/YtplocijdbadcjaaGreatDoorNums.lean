/- Contracts of slices.Sort, Compact, Equal, Contains, BinarySearch at rows of numbers of the call's own. -/
import Derived.Test.YtplocijdbadcjaaGreatDoorRowZ
import Derived.Test.YtplocijdbadcjaaGreatDoorLays
import Derived.Sort.OwnSorted
import Derived.Shelf.Sort.Plain
import Derived.Shelf.Slices.CompactI
import Derived.Shelf.Slices.SearchI
import Derived.Shelf.Slices.Turned
import Derived.Shelf.Slices.Equal
import Derived.Shelf.Slices.Empties2
import Derived.Shelf.Slices.In.SortNone
namespace WM
def sortZ (l : List Int) : List Int := l.mergeSort fun x y => decide (x ≤ y)
theorem sortZ_len (l : List Int) : (sortZ l).length = l.length := by simp [sortZ]
def compZ (l : List Int) : List Int := Go.Lib.compact l
theorem compZ_len (l : List Int) : (compZ l).length ≤ l.length := by
  unfold compZ Go.Lib.compact Go.Lib.compactUpTo
  rw [List.length_map]
  have := List.length_filter_le (Go.Lib.keeps l.toArray) (List.range l.length)
  simpa using this
end WM
namespace Go.Proofs.YtplocijdbadcjaaGreatDoor
open Go.RowKit Go.Sort

theorem OwnZ.less {w : World} {base base' : Nat} {v : Value} {l : List Int} (h : OwnZ w base v l) (hB : base' ≤ base) : OwnZ w base' v l := by
  refine ⟨h.1, ?_⟩
  rcases h.2 with h2 | ⟨g, cap, cur, rfl, hg, r⟩
  · exact .inl h2
  · exact .inr ⟨g, cap, cur, rfl, by omega, r⟩
theorem OwnZ.grown {w w' : World} {base : Nat} {v : Value} {l : List Int} {row : Option Nat} (h : OwnZ w base v l) (hg : w.grownBy w' row) (hr : ∀ k, v.ownBlock = some k → row ≠ some k) : OwnZ w' base v l := by
  refine ⟨h.1, ?_⟩
  rcases h.2 with h2 | ⟨g, cap, cur, rfl, hgb, hh, r⟩
  · exact .inl h2
  · have hlt := h.lt g (by simp [Value.ownBlock])
    exact .inr ⟨g, cap, cur, rfl, hgb, (hg.block g hlt (fun e => hr g (by simp [Value.ownBlock]) e.symm)).trans hh, r⟩
theorem OwnZ.len_le {w : World} {base : Nat} {v : Value} {l : List Int} (h : OwnZ w base v l) : l.length ≤ 9223372036854775807 := by
  rcases h.2 with ⟨rfl, h2⟩ | ⟨g, cap, cur, rfl, hg, hh, hn, hc, hsz, ht⟩
  · omega
  · unfold maxLen at hc; omega
theorem OwnZ.formC {w : World} {base : Nat} {v : Value} {l : List Int} (h : OwnZ w base v l) : ∃ (A : Option Addr) (cap : Nat), v = .slice A l.length cap ∧ l.length ≤ cap ∧ cap ≤ 9223372036854775807 ∧ (0 < l.length → ∃ g, A = some ⟨g, 0, none⟩ ∧ base ≤ g ∧ g < w.heap.size ∧ ∀ j z, l[j]? = some z → w.cell? ⟨g, j, none⟩ = some (.int .i64 z)) := by
  obtain ⟨A, cap, rfl, hf⟩ := h.form
  refine ⟨A, cap, rfl, ?_, ?_, fun hp => ?_⟩
  · rcases h.2 with ⟨h1, h2⟩ | ⟨g, cap', cur, h1, hg, hh, hn, hc, r⟩
    · omega
    · injection h1 with h1 h2 h3; omega
  · rcases h.2 with ⟨h1, h2⟩ | ⟨g, cap', cur, h1, hg, hh, hn, hc, r⟩
    · injection h1 with h1 h2 h3; omega
    · injection h1 with h1 h2 h3; unfold maxLen at hc; omega
  · obtain ⟨g, rfl, hg, hc⟩ := hf hp
    exact ⟨g, rfl, hg, h.lt g (by simp [Value.ownBlock]), hc⟩
theorem OwnZ.made (w : World) (l : List Int) (h : l.length ≤ maxLen) : OwnZ (w.alloc (.cells (ivs l).toArray 3)) w.heap.size (.slice (some ⟨w.heap.size, 0, none⟩) l.length l.length) l :=
  ⟨by simp [ivs], .inr ⟨w.heap.size, l.length, (ivs l).toArray, rfl, Nat.le_refl _, heap_alloc_new w _, Nat.le_refl _, h, by simp [ivs], by simp only [Nat.mul_one]; exact List.take_of_length_le (by simp [ivs])⟩⟩

theorem holdsZ {w : World} {g : Nat} {cur : Array Value} {e : TypeId} {l : List Int} (hb : w.heap[g]? = some (.cells cur e (0, 0))) (ht : cur.toList.take l.length = ivs l) : Holds (Value.int .i64) w g 0 l.toArray := by
  intro j hj
  have hj' : j < l.length := by simpa using hj
  refine ⟨?_, by simp [World.frozen?, hb]⟩
  have h1 : (cur.toList.take l.length)[j]? = (ivs l)[j]? := by rw [ht]
  rw [List.getElem?_take_of_lt hj'] at h1
  simp only [World.cell?, hb, Nat.zero_add]
  simp only [Option.isSome_none, Bool.false_eq_true, if_false]
  rw [← Array.getElem?_toList, h1]
  simp [ivs, hj']
theorem heapZ {w : World} {g n : Nat} {os : Array Obj} {cur : Array Value} {e : TypeId} {fr : Nat × Nat} (d : Array Int) (hb : w.heap[g]? = some (.cells cur e fr)) :
    (grow (putRow (Value.int .i64) (Sort.ahead w n) g 0 d) os).heap[g]? = some (.cells (putCells (Value.int .i64) 0 d cur) e fr) := by
  have hg : g < w.heap.size := (Array.getElem?_eq_some_iff.1 hb).1
  rw [heap_grow_old _ _ (by simpa using hg)]
  simp [putRow, mapBlock, Sort.ahead, Array.getElem?_modify, hb, onCells]
theorem grownZ {w : World} {g n : Nat} {os : Array Obj} (d : Array Int) : w.grownBy (grow (putRow (Value.int .i64) (Sort.ahead w n) g 0 d) os) (some g) := by
  refine ⟨rfl, rfl, rfl, by simp, fun k hk hne => ?_⟩
  rw [heap_grow_old _ _ (by simpa using hk)]
  have : g ≠ k := fun e => hne (by rw [e])
  simp [putRow, mapBlock, Sort.ahead, Array.getElem?_modify, this]
theorem takeZ (cur : Array Value) (ts : List Int) (h : ts.length ≤ cur.size) : (putCells (Value.int .i64) 0 ts.toArray cur).toList.take ts.length = ivs ts := by
  apply List.ext_getElem?
  intro j
  by_cases hj : j < ts.length
  · rw [List.getElem?_take_of_lt hj, Array.getElem?_toList]
    simp [putCells, ivs, hj, show j < cur.size by omega]
  · rw [List.getElem?_take_eq_none (by omega), List.getElem?_eq_none (by simp [ivs]; omega)]
theorem ownsZ {w : World} {base g cap n : Nat} {e : TypeId} {os : Array Obj} {cur : Array Value} {ts : List Int} {m : Nat} (hl : ts.length = m) (hbase : base ≤ g) (hb : w.heap[g]? = some (.cells cur e (0, 0)))
    (h1 : m ≤ cap) (h2 : cap ≤ maxLen) (h3 : cur.size = cap * 1) :
    (grow (putRow (Value.int .i64) (Sort.ahead w n) g 0 ts.toArray) os).ownsRow base e 1 (.slice (some ⟨g, 0, none⟩) m cap) m (ivs ts) :=
  ⟨by simp [ivs, hl], .inr ⟨g, cap, _, rfl, hbase, heapZ _ hb, h1, h2, by simp [putCells, h3], by rw [Nat.mul_one, ← hl]; exact takeZ cur ts (by omega)⟩⟩
theorem headZ {w : World} {base g cap n m : Nat} {e : TypeId} {xs : List Value} (h : w.ownsRow base e 1 (.slice (some ⟨g, 0, none⟩) n cap) n xs) (hm : m ≤ n) : w.ownsRow base e 1 (.slice (some ⟨g, 0, none⟩) m cap) m (xs.take m) := by
  rcases h.2 with ⟨h1, _⟩ | ⟨g', cap', cur, h1, hg, hh, hn, hc, hsz, ht⟩
  · cases h1
  · injection h1 with h1 h2 h3
    injection h1 with h1
    injection h1 with h1
    subst h1
    subst h3
    have hl : xs.length = n := by have := h.1; omega
    refine ⟨by simp; omega, .inr ⟨g, cap, cur, rfl, hg, hh, by omega, hc, hsz, ?_⟩⟩
    rw [← ht, Nat.mul_one, Nat.mul_one, List.take_take, Nat.min_eq_left hm]
/-- the head of a row of numbers -/
theorem OwnZ.head {w : World} {base : Nat} {A : Option Addr} {n cap : Nat} {l : List Int} (h : OwnZ w base (.slice A n cap) l) (m : Nat) (hm : m ≤ l.length) : OwnZ w base (.slice A m cap) (l.take m) := by
  rcases h.2 with ⟨h1, h2⟩ | ⟨g, cap', cur, h1, hg, hh, hn, hc, hsz, ht⟩
  · have hl : l = [] := List.eq_nil_of_length_eq_zero h2
    subst hl
    have : m = 0 := by simpa using hm
    subst this
    injection h1 with h1 h3 h4
    subst h1; subst h4
    exact OwnZ.nil _ _
  · injection h1 with h1 h3 h4
    subst h1; subst h3; subst h4
    have := headZ h hm
    unfold OwnZ
    rw [List.length_take, Nat.min_eq_left hm]
    have e : (ivs l).take m = ivs (l.take m) := by simp [ivs, List.map_take]
    rw [← e]
    exact this

/-- the row has been sorted where it lies -/
def SortedZ (base : Nat) (v : Value) (l : List Int) (w : World) (e : Ending) (w' : World) : Prop := e = .returned (.tuple #[]) ∧ OwnZ w' base v (WM.sortZ l) ∧ w.grownBy w' v.ownBlock
theorem SortZ_any {w : World} {base : Nat} {v : Value} {l : List Int} (h : OwnZ w base v l) (hl : l.length ≤ 1000000000000) :
    Calls Tryz.prog 23 #[v] w (SortedZ base v l w) := by
  rcases h.2 with ⟨rfl, h2⟩ | ⟨g, cap, cur, rfl, hg, hh, hn, hc, hsz, ht⟩
  · have hn : l = [] := List.eq_nil_of_length_eq_zero h2
    subst hn
    refine (show Calls Tryz.prog 23 #[.slice none 0 0] w _ from Any.slices_Sort_int_none Tryz.lays189 none 0 w).mono ?_
    rintro e w' ⟨rfl, rfl⟩
    exact ⟨rfl, by simpa [WM.sortZ] using OwnZ.nil _ _, World.grownBy.refl _ _⟩
  · have hgl : g < w.heap.size := (Array.getElem?_eq_some_iff.1 hh).1
    have hH : Holds (Value.int .i64) w g 0 l.toArray := holdsZ hh (by simpa using ht)
    refine (Any.slices_Sort_int Tryz.lays189 g 0 cap l w hH hgl (by omega)).mono ?_
    rintro e w' ⟨rfl, n, os, rfl⟩
    refine ⟨rfl, ?_, grownZ _⟩
    have ho := ownsZ (ts := WM.sortZ l) (n := n) (os := os) (m := l.length) (WM.sortZ_len l) hg hh hn hc hsz
    unfold OwnZ
    rw [WM.sortZ_len]
    exact ho
/-- a row of the numbers l in the same block is answered -/
def CompAtZ (base : Nat) (v : Value) (l : List Int) (w : World) (e : Ending) (w' : World) : Prop := ∃ v', e = .returned v' ∧ OwnZ w' base v' l ∧ w.grownBy w' v.ownBlock ∧ v'.ownBlock = v.ownBlock
set_option maxHeartbeats 400000 in
theorem CompZ_nil (w : World) : Calls Tryz.prog 24 #[.slice none 0 0] w fun e w' => e = .returned (.slice none 0 0) ∧ w = w' := by
  go_enter Tryz.func24, Tryz.ntmps24
  go_wp2_with fail
  go_ret
  exact ⟨rfl, rfl⟩
theorem CompZ_any {w : World} {base : Nat} {v : Value} {l : List Int} (h : OwnZ w base v l) :
    Calls Tryz.prog 24 #[v] w (CompAtZ base v (WM.compZ l) w) := by
  rcases h.2 with ⟨rfl, h2⟩ | ⟨g, cap, cur, rfl, hg, hh, hn, hc, hsz, ht⟩
  · have hn : l = [] := List.eq_nil_of_length_eq_zero h2
    subst hn
    refine (CompZ_nil w).mono ?_
    rintro e w' ⟨rfl, rfl⟩
    exact ⟨_, rfl, by rw [show WM.compZ [] = [] from rfl]; exact OwnZ.nil _ _, World.grownBy.refl _ _, rfl⟩
  · have hH : Holds (Value.int .i64) w g 0 l.toArray := holdsZ hh (by simpa using ht)
    refine (Any.slices_Compact_int Tryz.lays_2_20 g 0 cap l w hH (by unfold maxLen at hc; omega) hn).mono ?_
    rintro e w' ⟨rfl, q, rfl⟩
    have hcl := WM.compZ_len l
    have ho := ownsZ (ts := WM.compZ l ++ List.replicate (l.length - (WM.compZ l).length) 0) (n := q) (os := #[]) (m := l.length) (by simp; omega) hg hh hn hc hsz
    have hgr : w.grownBy _ (some g) := grownZ (w := w) (g := g) (n := q) (os := #[]) (WM.compZ l ++ List.replicate (l.length - (WM.compZ l).length) 0).toArray
    have e0 : ∀ W : World, grow W #[] = W := fun W => by simp [grow]
    rw [e0] at ho hgr
    refine ⟨_, rfl, ?_, hgr, rfl⟩
    have hh2 := headZ ho hcl
    have e1 : (ivs (WM.compZ l ++ List.replicate (l.length - (WM.compZ l).length) 0)).take (WM.compZ l).length = ivs (WM.compZ l) := by
      rw [ivs_append, List.take_append_of_le_length (by rw [ivs_len]; omega), List.take_of_length_le (by rw [ivs_len]; omega)]
    rw [e1] at hh2
    exact hh2

theorem getZ (l : List Int) (j : Nat) (hj : j < l.length) : l[j]? = some (l.getD j 0) := by
  rw [List.getD_eq_getElem?_getD, List.getElem?_eq_getElem hj]; rfl
/-- a bool is answered; only the draws have moved -/
def SaysBz (b : Bool) (w : World) (e : Ending) (w' : World) : Prop := e = .returned (.bool b) ∧ ∃ n, w' = w.drewN n
theorem EqualZ_any {w : World} {b1 b2 : Nat} {v1 v2 : Value} {l1 l2 : List Int} (h1 : OwnZ w b1 v1 l1) (h2 : OwnZ w b2 v2 l2) (b : Bool) (hb : decide (l1 = l2) = b) :
    Calls Tryz.prog 9 #[v1, v2] w (SaysBz b w) := by
  have hl1 := h1.len_le
  have hl2 := h2.len_le
  obtain ⟨A1, c1, rfl, _, _, hf1⟩ := h1.formC
  obtain ⟨A2, c2, rfl, _, _, hf2⟩ := h2.formC
  by_cases hlen : l1.length = l2.length
  · rcases Nat.eq_zero_or_pos l1.length with e1 | p1
    · have hn1 : l1 = [] := List.eq_nil_of_length_eq_zero e1
      have hn2 : l2 = [] := List.eq_nil_of_length_eq_zero (by omega)
      subst hn1; subst hn2
      refine (show Calls Tryz.prog 9 #[.slice A1 0 c1, .slice A2 0 c2] w _ from Any.slices_Equal_int_empty Tryz.lays111 A1 A2 c1 0 c2 w (by omega)).mono ?_
      rintro e w' ⟨rfl, rfl⟩
      exact ⟨by rw [← hb]; rfl, 0, rfl⟩
    · obtain ⟨g1, rfl, _, _, hc1⟩ := hf1 p1
      obtain ⟨g2, rfl, _, _, hc2⟩ := hf2 (by omega)
      refine (Any.slices_Equal_int Tryz.lays111 g1 0 l1.length c1 g2 0 l2.length c2 l1 l2 w (Nat.le_refl _) (Nat.le_refl _) hl1 hl2 (fun j hj => by rw [Nat.zero_add]; exact hc1 j _ (getZ l1 j hj)) (fun j hj => by rw [Nat.zero_add]; exact hc2 j _ (getZ l2 j hj))).mono ?_
      rintro e w' ⟨rfl, q, rfl⟩
      refine ⟨?_, q, rfl⟩
      rw [← hb, List.take_of_length_le (Nat.le_refl _), List.take_of_length_le (Nat.le_refl _)]
      congr 2
      by_cases he : l1 = l2 <;> simp [he]
  · refine (Any.slices_Equal_int_lens Tryz.lays111 A1 A2 l1.length c1 l2.length c2 w hlen).mono ?_
    rintro e w' ⟨rfl, rfl⟩
    refine ⟨?_, 0, rfl⟩
    rw [← hb, decide_eq_false (fun h => hlen (by rw [h]))]
theorem ContainsZ_any {w : World} {base : Nat} {v : Value} {l : List Int} (h : OwnZ w base v l) (x : Int) (b : Bool) (hb : decide (x ∈ l) = b) :
    Calls Tryz.prog 30 #[v, .int .i64 x] w (SaysBz b w) := by
  have hl := h.len_le
  obtain ⟨A, c, rfl, _, _, hf⟩ := h.formC
  rcases Nat.eq_zero_or_pos l.length with e1 | p1
  · have hn1 : l = [] := List.eq_nil_of_length_eq_zero e1
    subst hn1
    refine (show Calls Tryz.prog 30 #[.slice A 0 c, .int .i64 x] w _ from Any.slices_Contains_int_empty Tryz.lays107 A c x w).mono ?_
    rintro e w' ⟨rfl, rfl⟩
    exact ⟨by rw [← hb]; rfl, 0, rfl⟩
  · obtain ⟨g, rfl, _, _, hc⟩ := hf p1
    refine (Any.slices_Contains_int Tryz.lays107 g 0 l.length c l x w (Nat.le_refl _) hl (fun j hj => by rw [Nat.zero_add]; exact hc j _ (getZ l j hj))).mono ?_
    rintro e w' ⟨rfl, rfl⟩
    refine ⟨?_, 0, rfl⟩
    rw [← hb, List.take_of_length_le (Nat.le_refl _)]
    simp
def SaysBinZ (b : Bool) (w : World) (e : Ending) (w' : World) : Prop := ∃ n : Nat, e = .returned (.tuple #[.int .i64 n, .bool b]) ∧ ∃ q, w' = w.drewN q
set_option maxHeartbeats 400000 in
theorem BinZ_nil (x : Int) (w : World) : Calls Tryz.prog 28 #[.slice none 0 0, .int .i64 x] w (SaysBinZ false w) := by
  go_enter Tryz.func28, Tryz.ntmps28
  go_wp2_with fail
  go_loop [7, 8] (fun a b => a = .int .i64 0 ∧ b = .int .i64 0) (fun _ _ => 0)
  case atStart => exact ⟨rfl, rfl⟩
  case round =>
    obtain ⟨rfl, rfl⟩ := hrel
    go_wp2_with fail
    go_ret2
    exact ⟨0, rfl, 0, rfl⟩
theorem BinZ_any {w : World} {base : Nat} {v : Value} {l : List Int} (h : OwnZ w base v l) (hs : l.Pairwise (· ≤ ·)) (hl : l.length ≤ 1000000000000) (x : Int) (b : Bool) (hb : decide (x ∈ l) = b) :
    Calls Tryz.prog 28 #[v, .int .i64 x] w (SaysBinZ b w) := by
  rcases h.2 with ⟨rfl, h2⟩ | ⟨g, cap, cur, rfl, hg, hh, hn, hc, hsz, ht⟩
  · have hn : l = [] := List.eq_nil_of_length_eq_zero h2
    subst hn
    have : b = false := by rw [← hb]; rfl
    subst this
    exact BinZ_nil x w
  · refine (Any.slices_BinarySearch_int Tryz.lays_2_25 g 0 l.length cap l x w (Nat.le_refl _) (by omega) (fun j hj => ?_) (by rw [List.take_of_length_le (Nat.le_refl _)]; exact hs)).mono ?_
    · rw [Nat.zero_add]
      refine (World.ownsRow.cellAt h j (by omega)).trans ?_
      simp [ivs, List.getD_eq_getElem?_getD, List.getElem?_eq_getElem hj]
    · rintro e w' ⟨rfl, q, rfl⟩
      refine ⟨l.countP (· < x), ?_, q, rfl⟩
      rw [List.take_of_length_le (Nat.le_refl _), ← hb]
      have e : l.contains x = decide (x ∈ l) := by simp
      rw [e]
theorem grownBy_comp {a w w' : World} {row : Option Nat} (h : a.grownBy w row) (hg : w.grownBy w' row) : a.grownBy w' row :=
  ⟨hg.os.trans h.os, hg.tape.trans h.tape, hg.output.trans h.output, Nat.le_trans h.size hg.size, fun i hi hne => (hg.block i (by have := h.size; omega) hne).trans (h.block i hi hne)⟩
end Go.Proofs.YtplocijdbadcjaaGreatDoor
