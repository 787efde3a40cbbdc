/- Contracts of CheckItem and the reference's ItemFault. -/
import Derived.Test.YthhfbcddjnjllaaGreatDoorTexts
namespace Go.Proofs.YthhfbcddjnjllaaGreatDoor
open Go.RowKit

structure It where
  id : ByteArray
  cu : ByteArray
  kind : Int
  name : ByteArray
  at' : Int
  parent : ByteArray
  text : ByteArray
def It.cells (x : It) : Array Value := #[.string x.id, .string x.cu, .int .i64 x.kind, .string x.name, .int .i64 x.at', .string x.parent, .string x.text]
def It.small (x : It) : Prop := x.id.size ≤ 1000000 ∧ x.cu.size ≤ 1000000 ∧ x.name.size ≤ 1000000 ∧ x.parent.size ≤ 1000000 ∧ x.text.size ≤ 1000000
def KM.kind (n : Int) : Bool := decide (1 ≤ n) && decide (n ≤ 4)
def It.fault (x : It) : Int :=
  if (KM.key x.id.data.toList && KM.key x.cu.data.toList) = false then 5
  else if KM.kind x.kind = false then 4
  else if 120 < x.name.size then 2
  else if TM.plain x.name.data.toList = false then 3
  else if KM.moment x.at' = false then 1
  else if (x.parent.toList.isEmpty || KM.key x.parent.data.toList) = false then 5
  else if x.parent.toList = x.id.toList then 14
  else if 20000 < x.text.size then 2
  else if TM.text x.text.data.toList = false then 3 else 0
/-- a fault is answered; what was there has not changed -/
def SaysI (n : Int) (w : World) (e : Ending) (w' : World) : Prop := e = .returned (.int .i64 n) ∧ Below w.heap.size w w'
/-- the seven cells of an item that was boxed in block b -/
structure Boxed (x : It) (b : Nat) (w : World) : Prop where
  c0 : w.cell? ⟨b, 0, none⟩ = some (.string x.id)
  c1 : w.cell? ⟨b, 1, none⟩ = some (.string x.cu)
  c2 : w.cell? ⟨b, 2, none⟩ = some (.int .i64 x.kind)
  c3 : w.cell? ⟨b, 3, none⟩ = some (.string x.name)
  c4 : w.cell? ⟨b, 4, none⟩ = some (.int .i64 x.at')
  c5 : w.cell? ⟨b, 5, none⟩ = some (.string x.parent)
  c6 : w.cell? ⟨b, 6, none⟩ = some (.string x.text)
theorem Boxed.below {x : It} {b : Nat} {w w' : World} (h : Boxed x b w) (hb : Below w.heap.size w w') (hl : b < w.heap.size) : Boxed x b w' :=
  ⟨(hb.cell hl).trans h.c0, (hb.cell hl).trans h.c1, (hb.cell hl).trans h.c2, (hb.cell hl).trans h.c3, (hb.cell hl).trans h.c4, (hb.cell hl).trans h.c5, (hb.cell hl).trans h.c6⟩

theorem says_i {x : It} {n : Int} {w w' : World} (h : x.fault = n) (hb : Below w.heap.size w w') : SaysI x.fault w (.returned (.int .i64 n)) w' := ⟨by rw [h], hb⟩
/-- inside a function that boxed an item -/
structure InItem (x : It) (w wi : World) : Prop where
  box : Boxed x w.heap.size wi
  below : Below w.heap.size w wi
  tabs : Tabs wi
  lt : w.heap.size < wi.heap.size
theorem InItem.step {x : It} {w wi w' : World} (h : InItem x w wi) (hb : Below wi.heap.size wi w') : InItem x w w' :=
  ⟨h.box.below hb h.lt, h.below.trans (hb.mono h.below.size), h.tabs.below hb, Nat.lt_of_lt_of_le h.lt hb.size⟩
theorem InItem.start (x : It) (w : World) (t : TypeId) (hT : Tabs w) : InItem x w (w.alloc (.cells x.cells t)) := by
  have hW : Below w.heap.size w (w.alloc (.cells x.cells t)) := (Below.refl _ _).alloc (Nat.le_refl _) _
  exact ⟨⟨World.cell?_alloc_at _ _ _ _ (by simp), World.cell?_alloc_at _ _ _ _ (by simp), World.cell?_alloc_at _ _ _ _ (by simp), World.cell?_alloc_at _ _ _ _ (by simp), World.cell?_alloc_at _ _ _ _ (by simp), World.cell?_alloc_at _ _ _ _ (by simp), World.cell?_alloc_at _ _ _ _ (by simp)⟩, hW, hT.below hW, by simp⟩
theorem saysk_b {b : Bool} {w w' : World} {e : Ending} (h : SaysBo b w e w') : SaysK b w e w' := by
  obtain ⟨h1, n, rfl⟩ := h
  exact ⟨h1, below_drewN (Below.refl _ _) n⟩
theorem KeyP_any (s : ByteArray) (b : Bool) (hb : KM.key s.data.toList = b) (hs : s.size ≤ 1000000000) (w : World) : Calls Tryz.prog 77 #[.string s] w (SaysK b w) :=
  hb ▸ (Key_any s (by omega) w).mono fun _ _ h => saysk_b h
theorem KeyR_any (s : ByteArray) (b : Bool) (hb : KM.key s.data.toList = b) (hs : s.size ≤ 1000000000) (w : World) : Calls Tryz.prog 65 #[.string s] w (SaysK b w) :=
  hb ▸ RKey_any s (by omega) w
def SaysW (b : Bool) (w : World) (e : Ending) (w' : World) : Prop := ∃ s : ByteArray, e = .returned (.string s) ∧ s.toList.isEmpty = !b ∧ Below w.heap.size w w'
theorem KindWord_any (n : Int) (b : Bool) (hb : KM.kind n = b) (w : World) : Calls Tryz.prog 78 #[.int .i64 n] w (SaysW b w) := by
  unfold KM.kind at hb
  by_cases h1 : n = 1
  · subst h1; subst hb
    go_enter Tryz.func78, Tryz.ntmps78
    go_wp2_with fail
    go_ret
    exact ⟨_, rfl, by decide +kernel, Below.refl _ _⟩
  by_cases h2 : n = 2
  · subst h2; subst hb
    go_enter Tryz.func78, Tryz.ntmps78
    go_wp2_with fail
    go_ret
    exact ⟨_, rfl, by decide +kernel, Below.refl _ _⟩
  by_cases h3 : n = 3
  · subst h3; subst hb
    go_enter Tryz.func78, Tryz.ntmps78
    go_wp2_with fail
    go_ret
    exact ⟨_, rfl, by decide +kernel, Below.refl _ _⟩
  by_cases h4 : n = 4
  · subst h4; subst hb
    go_enter Tryz.func78, Tryz.ntmps78
    go_wp2_with fail
    go_ret
    exact ⟨_, rfl, by decide +kernel, Below.refl _ _⟩
  have e1 : (n == 1) = false := beq_eq_false_iff_ne.2 h1
  have e2 : (n == 2) = false := beq_eq_false_iff_ne.2 h2
  have e3 : (n == 3) = false := beq_eq_false_iff_ne.2 h3
  have e4 : (n == 4) = false := beq_eq_false_iff_ne.2 h4
  have eb : b = false := by rw [← hb]; simp; omega
  subst eb
  go_enter Tryz.func78, Tryz.ntmps78
  go_wp2_with fail
  go_ret
  exact ⟨_, rfl, by decide +kernel, Below.refl _ _⟩
theorem inK_any (n lo hi : Int) (b : Bool) (hb : (decide (lo ≤ n) && decide (n ≤ hi)) = b) (w : World) : Calls Tryz.prog 74 #[.int .i64 n, .int .i64 lo, .int .i64 hi] w (SaysK b w) :=
  (in_any n lo hi b hb w).mono fun _ _ h => saysk_b h
theorem MomentK_any (n : Int) (b : Bool) (hb : KM.moment n = b) (w : World) : Calls Tryz.prog 80 #[.int .i64 n] w (SaysK b w) :=
  (Moment_any n b hb w).mono fun _ _ h => saysk_b h
theorem key_some {s : ByteArray} (h : KM.key s.data.toList = true) : s.toList.isEmpty = false := by
  rw [ByteArray.toList_eq]
  cases hs : s.data.toList with
  | nil => rw [hs] at h; cases h
  | cons a l => rfl
theorem moment_in (n : Int) : (decide (0 ≤ n) && decide (n ≤ 5761439)) = KM.moment n := by
  unfold KM.moment
  congr 1
  simp; omega

set_option maxHeartbeats 8000000 in
theorem CheckItem_any (x : It) (hx : x.small) (w : World) (hT : Tabs w) : Calls Tryz.prog 17 #[.agg x.cells] w (SaysI x.fault w) := by
  obtain ⟨z0, z1, z3, z5, z6⟩ := hx
  obtain ⟨b0, k0⟩ : ∃ b, KM.key x.id.data.toList = b := ⟨_, rfl⟩
  obtain ⟨b1, k1⟩ : ∃ b, KM.key x.cu.data.toList = b := ⟨_, rfl⟩
  obtain ⟨b2, k2⟩ : ∃ b, KM.kind x.kind = b := ⟨_, rfl⟩
  obtain ⟨b3, k3⟩ : ∃ b, TM.plain x.name.data.toList = b := ⟨_, rfl⟩
  obtain ⟨b4, k4⟩ : ∃ b, KM.moment x.at' = b := ⟨_, rfl⟩
  obtain ⟨b5, k5⟩ : ∃ b, KM.key x.parent.data.toList = b := ⟨_, rfl⟩
  obtain ⟨b8, k8⟩ : ∃ b, TM.text x.text.data.toList = b := ⟨_, rfl⟩
  go_enter Tryz.func17, Tryz.ntmps17
  go_upto_region 1 with (fail)
  have hI := InItem.start x w 30 hT
  revert hI
  generalize (w.alloc (.cells x.cells 30)) = w1
  intro hI
  obtain ⟨c0, c1, c2, c3, c4, c5, c6⟩ := id hI.box
  go_wp2_with fail
  refine (KeyP_any x.id b0 k0 (by omega) _).mono ?_
  rintro e w2 ⟨rfl, hw2⟩
  replace hI := hI.step hw2
  clear hw2 c0 c1 c2 c3 c4 c5 c6
  obtain ⟨c0, c1, c2, c3, c4, c5, c6⟩ := id hI.box
  cases b0
  · skip
    go_wp2_with fail
    go_ret
    exact says_i (by unfold It.fault; simp [k0]) hI.below
  · skip
    go_wp2_with fail
    refine (KeyP_any x.cu b1 k1 (by omega) _).mono ?_
    rintro e w2 ⟨rfl, hw2⟩
    replace hI := hI.step hw2
    clear hw2 c0 c1 c2 c3 c4 c5 c6
    obtain ⟨c0, c1, c2, c3, c4, c5, c6⟩ := id hI.box
    cases b1
    · skip
      go_wp2_with fail
      go_ret
      exact says_i (by unfold It.fault; simp [k0, k1]) hI.below
    · skip
      go_wp2_with fail
      refine (KindWord_any x.kind b2 k2 _).mono ?_
      rintro e w2 ⟨u, rfl, hu, hw2⟩
      replace hI := hI.step hw2
      clear hw2 c0 c1 c2 c3 c4 c5 c6
      obtain ⟨c0, c1, c2, c3, c4, c5, c6⟩ := id hI.box
      cases b2
      · skip
        go_wp2_with fail
        go_ret
        exact says_i (by unfold It.fault; simp [k0, k1, k2]) hI.below
      · skip
        by_cases h3 : 120 < x.name.size
        · skip
          go_wp2_with fail
          go_ret
          exact says_i (by unfold It.fault; simp [k0, k1, k2, h3]) hI.below
        · skip
          go_wp2_with fail
          refine (Plain_any x.name b3 k3 (by omega) _ hI.tabs).mono ?_
          rintro e w2 ⟨rfl, hw2⟩
          replace hI := hI.step hw2
          clear hw2 c0 c1 c2 c3 c4 c5 c6
          obtain ⟨c0, c1, c2, c3, c4, c5, c6⟩ := id hI.box
          cases b3
          · skip
            go_wp2_with fail
            go_ret
            exact says_i (by unfold It.fault; simp [k0, k1, k2, h3, k3]) hI.below
          · skip
            go_wp2_with fail
            refine (MomentK_any x.at' b4 k4 _).mono ?_
            rintro e w2 ⟨rfl, hw2⟩
            replace hI := hI.step hw2
            clear hw2 c0 c1 c2 c3 c4 c5 c6
            obtain ⟨c0, c1, c2, c3, c4, c5, c6⟩ := id hI.box
            cases b4
            · skip
              go_wp2_with fail
              go_ret
              exact says_i (by unfold It.fault; simp [k0, k1, k2, h3, k3, k4]) hI.below
            · skip
              by_cases h5 : x.parent.toList.isEmpty = true
              · skip
                have h6 : ¬ x.parent.toList = x.id.toList := by
                  intro h
                  rw [h, key_some k0] at h5
                  cases h5
                have e6 : (x.parent.toList == x.id.toList) = false := beq_eq_false_iff_ne.2 h6
                by_cases h7 : 20000 < x.text.size
                · skip
                  go_wp2_with fail
                  go_ret
                  exact says_i (by unfold It.fault; simp [k0, k1, k2, h3, k3, k4, h5, h6, h7]) hI.below
                · skip
                  go_wp2_with fail
                  refine (Text_any x.text b8 k8 (by omega) _ hI.tabs).mono ?_
                  rintro e w2 ⟨rfl, hw2⟩
                  replace hI := hI.step hw2
                  clear hw2 c0 c1 c2 c3 c4 c5 c6
                  obtain ⟨c0, c1, c2, c3, c4, c5, c6⟩ := id hI.box
                  cases b8
                  · skip
                    go_wp2_with fail
                    go_ret
                    exact says_i (by unfold It.fault; simp [k0, k1, k2, h3, k3, k4, h5, h6, h7, k8]) hI.below
                  · skip
                    go_wp2_with fail
                    go_ret
                    exact says_i (by unfold It.fault; simp [k0, k1, k2, h3, k3, k4, h5, h6, h7, k8]) hI.below
              · skip
                replace h5 : x.parent.toList.isEmpty = false := by simpa using h5
                go_wp2_with fail
                refine (KeyP_any x.parent b5 k5 (by omega) _).mono ?_
                rintro e w2 ⟨rfl, hw2⟩
                replace hI := hI.step hw2
                clear hw2 c0 c1 c2 c3 c4 c5 c6
                obtain ⟨c0, c1, c2, c3, c4, c5, c6⟩ := id hI.box
                cases b5
                · skip
                  go_wp2_with fail
                  go_ret
                  exact says_i (by unfold It.fault; simp [k0, k1, k2, h3, k3, k4, h5, k5]) hI.below
                · skip
                  by_cases h6 : x.parent.toList = x.id.toList
                  · skip
                    have e6 : (x.parent.toList == x.id.toList) = true := beq_iff_eq.2 h6
                    go_wp2_with fail
                    go_ret
                    exact says_i (by unfold It.fault; rw [if_neg (by simp [k0, k1]), if_neg (by simp [k2]), if_neg (by omega), if_neg (by simp [k3]), if_neg (by simp [k4]), if_neg (by simp [k5]), if_pos h6]) hI.below
                  · skip
                    have e6 : (x.parent.toList == x.id.toList) = false := beq_eq_false_iff_ne.2 h6
                    by_cases h7 : 20000 < x.text.size
                    · skip
                      go_wp2_with fail
                      go_ret
                      exact says_i (by unfold It.fault; simp [k0, k1, k2, h3, k3, k4, h5, k5, h6, h7]) hI.below
                    · skip
                      go_wp2_with fail
                      refine (Text_any x.text b8 k8 (by omega) _ hI.tabs).mono ?_
                      rintro e w2 ⟨rfl, hw2⟩
                      replace hI := hI.step hw2
                      clear hw2 c0 c1 c2 c3 c4 c5 c6
                      obtain ⟨c0, c1, c2, c3, c4, c5, c6⟩ := id hI.box
                      cases b8
                      · skip
                        go_wp2_with fail
                        go_ret
                        exact says_i (by unfold It.fault; simp [k0, k1, k2, h3, k3, k4, h5, k5, h6, h7, k8]) hI.below
                      · skip
                        go_wp2_with fail
                        go_ret
                        exact says_i (by unfold It.fault; simp [k0, k1, k2, h3, k3, k4, h5, k5, h6, h7, k8]) hI.below

set_option maxHeartbeats 8000000 in
theorem ItemFault_any (x : It) (hx : x.small) (w : World) (hT : Tabs w) : Calls Tryz.prog 16 #[.agg x.cells] w (SaysI x.fault w) := by
  obtain ⟨z0, z1, z3, z5, z6⟩ := hx
  obtain ⟨b0, k0⟩ : ∃ b, KM.key x.id.data.toList = b := ⟨_, rfl⟩
  obtain ⟨b1, k1⟩ : ∃ b, KM.key x.cu.data.toList = b := ⟨_, rfl⟩
  obtain ⟨b2, k2⟩ : ∃ b, KM.kind x.kind = b := ⟨_, rfl⟩
  obtain ⟨b3, k3⟩ : ∃ b, TM.plain x.name.data.toList = b := ⟨_, rfl⟩
  obtain ⟨b4, k4⟩ : ∃ b, KM.moment x.at' = b := ⟨_, rfl⟩
  obtain ⟨b5, k5⟩ : ∃ b, KM.key x.parent.data.toList = b := ⟨_, rfl⟩
  obtain ⟨b8, k8⟩ : ∃ b, TM.text x.text.data.toList = b := ⟨_, rfl⟩
  go_enter Tryz.func16, Tryz.ntmps16
  go_upto_region 1 with (fail)
  have hI := InItem.start x w 30 hT
  revert hI
  generalize (w.alloc (.cells x.cells 30)) = w1
  intro hI
  obtain ⟨c0, c1, c2, c3, c4, c5, c6⟩ := id hI.box
  go_wp2_with fail
  refine (KeyR_any x.id b0 k0 (by omega) _).mono ?_
  rintro e w2 ⟨rfl, hw2⟩
  replace hI := hI.step hw2
  clear hw2 c0 c1 c2 c3 c4 c5 c6
  obtain ⟨c0, c1, c2, c3, c4, c5, c6⟩ := id hI.box
  cases b0
  · skip
    go_wp2_with fail
    go_ret
    exact says_i (by unfold It.fault; simp [k0]) hI.below
  · skip
    go_wp2_with fail
    refine (KeyR_any x.cu b1 k1 (by omega) _).mono ?_
    rintro e w2 ⟨rfl, hw2⟩
    replace hI := hI.step hw2
    clear hw2 c0 c1 c2 c3 c4 c5 c6
    obtain ⟨c0, c1, c2, c3, c4, c5, c6⟩ := id hI.box
    cases b1
    · skip
      go_wp2_with fail
      go_ret
      exact says_i (by unfold It.fault; simp [k0, k1]) hI.below
    · skip
      go_wp2_with fail
      refine (inK_any x.kind 1 4 b2 k2 _).mono ?_
      rintro e w2 ⟨rfl, hw2⟩
      replace hI := hI.step hw2
      clear hw2 c0 c1 c2 c3 c4 c5 c6
      obtain ⟨c0, c1, c2, c3, c4, c5, c6⟩ := id hI.box
      cases b2
      · skip
        go_wp2_with fail
        go_ret
        exact says_i (by unfold It.fault; simp [k0, k1, k2]) hI.below
      · skip
        by_cases h3 : 120 < x.name.size
        · skip
          go_wp2_with fail
          go_ret
          exact says_i (by unfold It.fault; simp [k0, k1, k2, h3]) hI.below
        · skip
          go_wp2_with fail
          refine (RPlain_any x.name b3 k3 (by omega) _ hI.tabs).mono ?_
          rintro e w2 ⟨rfl, hw2⟩
          replace hI := hI.step hw2
          clear hw2 c0 c1 c2 c3 c4 c5 c6
          obtain ⟨c0, c1, c2, c3, c4, c5, c6⟩ := id hI.box
          cases b3
          · skip
            go_wp2_with fail
            go_ret
            exact says_i (by unfold It.fault; simp [k0, k1, k2, h3, k3]) hI.below
          · skip
            go_wp2_with fail
            refine (inK_any x.at' 0 5761439 b4 ((moment_in _).trans k4) _).mono ?_
            rintro e w2 ⟨rfl, hw2⟩
            replace hI := hI.step hw2
            clear hw2 c0 c1 c2 c3 c4 c5 c6
            obtain ⟨c0, c1, c2, c3, c4, c5, c6⟩ := id hI.box
            cases b4
            · skip
              go_wp2_with fail
              go_ret
              exact says_i (by unfold It.fault; simp [k0, k1, k2, h3, k3, k4]) hI.below
            · skip
              by_cases h5 : x.parent.toList.isEmpty = true
              · skip
                have h6 : ¬ x.parent.toList = x.id.toList := by
                  intro h
                  rw [h, key_some k0] at h5
                  cases h5
                have e6 : (x.parent.toList == x.id.toList) = false := beq_eq_false_iff_ne.2 h6
                by_cases h7 : 20000 < x.text.size
                · skip
                  go_wp2_with fail
                  go_ret
                  exact says_i (by unfold It.fault; simp [k0, k1, k2, h3, k3, k4, h5, h6, h7]) hI.below
                · skip
                  go_wp2_with fail
                  refine (RIsText_any x.text b8 k8 (by omega) _ hI.tabs).mono ?_
                  rintro e w2 ⟨rfl, hw2⟩
                  replace hI := hI.step hw2
                  clear hw2 c0 c1 c2 c3 c4 c5 c6
                  obtain ⟨c0, c1, c2, c3, c4, c5, c6⟩ := id hI.box
                  cases b8
                  · skip
                    go_wp2_with fail
                    go_ret
                    exact says_i (by unfold It.fault; simp [k0, k1, k2, h3, k3, k4, h5, h6, h7, k8]) hI.below
                  · skip
                    go_wp2_with fail
                    go_ret
                    exact says_i (by unfold It.fault; simp [k0, k1, k2, h3, k3, k4, h5, h6, h7, k8]) hI.below
              · skip
                replace h5 : x.parent.toList.isEmpty = false := by simpa using h5
                go_wp2_with fail
                refine (KeyR_any x.parent b5 k5 (by omega) _).mono ?_
                rintro e w2 ⟨rfl, hw2⟩
                replace hI := hI.step hw2
                clear hw2 c0 c1 c2 c3 c4 c5 c6
                obtain ⟨c0, c1, c2, c3, c4, c5, c6⟩ := id hI.box
                cases b5
                · skip
                  go_wp2_with fail
                  go_ret
                  exact says_i (by unfold It.fault; simp [k0, k1, k2, h3, k3, k4, h5, k5]) hI.below
                · skip
                  by_cases h6 : x.parent.toList = x.id.toList
                  · skip
                    have e6 : (x.parent.toList == x.id.toList) = true := beq_iff_eq.2 h6
                    go_wp2_with fail
                    go_ret
                    exact says_i (by unfold It.fault; rw [if_neg (by simp [k0, k1]), if_neg (by simp [k2]), if_neg (by omega), if_neg (by simp [k3]), if_neg (by simp [k4]), if_neg (by simp [k5]), if_pos h6]) hI.below
                  · skip
                    have e6 : (x.parent.toList == x.id.toList) = false := beq_eq_false_iff_ne.2 h6
                    by_cases h7 : 20000 < x.text.size
                    · skip
                      go_wp2_with fail
                      go_ret
                      exact says_i (by unfold It.fault; simp [k0, k1, k2, h3, k3, k4, h5, k5, h6, h7]) hI.below
                    · skip
                      go_wp2_with fail
                      refine (RIsText_any x.text b8 k8 (by omega) _ hI.tabs).mono ?_
                      rintro e w2 ⟨rfl, hw2⟩
                      replace hI := hI.step hw2
                      clear hw2 c0 c1 c2 c3 c4 c5 c6
                      obtain ⟨c0, c1, c2, c3, c4, c5, c6⟩ := id hI.box
                      cases b8
                      · skip
                        go_wp2_with fail
                        go_ret
                        exact says_i (by unfold It.fault; simp [k0, k1, k2, h3, k3, k4, h5, k5, h6, h7, k8]) hI.below
                      · skip
                        go_wp2_with fail
                        go_ret
                        exact says_i (by unfold It.fault; simp [k0, k1, k2, h3, k3, k4, h5, k5, h6, h7, k8]) hI.below
end Go.Proofs.YthhfbcddjnjllaaGreatDoor
