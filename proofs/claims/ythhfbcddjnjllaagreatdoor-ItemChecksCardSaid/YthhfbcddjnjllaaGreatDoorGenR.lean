/- Contract of the maker of right items. -/
import Derived.Test.YthhfbcddjnjllaaGreatDoorGenI
import Derived.Test.YthhfbcddjnjllaaGreatDoorRowI
import Derived.Test.YthhfbcddjnjllaaGreatDoorRefC
namespace Go.Proofs.YthhfbcddjnjllaaGreatDoor
open Go.RowKit

theorem Tabs.took {w w' : World} {g : Nat} (h : Tabs w) (hg : w.grownBy w' (some g)) (ht : tabTop ≤ g) : Tabs w' := h.grown hg ht
def IM.sanes (L : List It) : Prop := ∀ (i : Nat) (x : It), L[i]? = some x → x.sane
theorem IM.sanes.smalls {L : List It} (h : IM.sanes L) : IM.smalls L := fun i x hx => (h i x hx).1
theorem IM.sanes.snoc {L : List It} {x : It} (h : IM.sanes L) (hx : x.sane) : IM.sanes (L ++ [x]) := by
  intro i y hy
  rcases Nat.lt_or_ge i L.length with h1 | h1
  · rw [List.getElem?_append_left h1] at hy; exact h i y hy
  · rw [List.getElem?_append_right h1] at hy
    cases hi : i - L.length with
    | zero => rw [hi] at hy; simp at hy; rw [← hy]; exact hx
    | succ n => rw [hi] at hy; simp at hy
theorem IM.sanes.set {L : List It} {x : It} {k : Nat} (h : IM.sanes L) (hx : x.sane) : IM.sanes (L.set k x) := by
  intro i y hy
  rw [List.getElem?_set] at hy
  split at hy
  · split at hy
    · injection hy with hy; rw [← hy]; exact hx
    · cases hy
  · exact h i y hy
theorem below_drew (w : World) : Below w.heap.size w w.drew := below_drewN (Below.refl _ _) 1
/-- what the maker of items keeps -/
structure Made (B g k : Nat) (w wr : World) (v : Value) (L : List It) : Prop where
  own : OwnI wr w.heap.size v L
  sane : IM.sanes L
  strm : ∃ k', k' ≤ k ∧ Strm wr B g k'
  grown : w.grownBy wr (some g)
  tabs : Tabs wr
  top : tabTop ≤ g
  gl : g < w.heap.size
theorem Made.call {B g k k1 : Nat} {w wr w' : World} {v : Value} {L : List It} (h : Made B g k w wr v L) (hg : wr.grownBy w' (some g)) (hs : ∃ k', k' ≤ k1 ∧ Strm w' B g k') : Made B g k1 w w' v L :=
  ⟨h.own.grown hg h.gl, h.sane, hs, h.grown.trans hg, h.tabs.grown hg h.top, h.top, h.gl⟩
theorem Made.below {B g k : Nat} {w wr w' : World} {v : Value} {L : List It} (h : Made B g k w wr v L) (hb : Below wr.heap.size wr w') : Made B g k w w' v L := by
  obtain ⟨k', hk', hs⟩ := h.strm
  exact ⟨h.own.below hb, h.sane, ⟨k', hk', hs.below hb hs.lt⟩, h.grown.trans (only_of_below hb _), h.tabs.below hb, h.top, h.gl⟩
theorem Made.le {B g k k1 : Nat} {w wr : World} {v : Value} {L : List It} (h : Made B g k w wr v L) (hk : k ≤ k1) : Made B g k1 w wr v L := by
  obtain ⟨k', hk', hs⟩ := h.strm
  exact ⟨h.own, h.sane, ⟨k', by omega, hs⟩, h.grown, h.tabs, h.top, h.gl⟩
theorem grown_own {a w w' : World} {g : Nat} {row : Option Nat} (h : a.grownBy w (some g)) (hg : w.grownBy w' row) (hr : ∀ k, row = some k → a.heap.size ≤ k) : a.grownBy w' (some g) :=
  ⟨hg.os.trans h.os, hg.tape.trans h.tape, hg.output.trans h.output, Nat.le_trans h.size hg.size, fun i hi hne => (hg.block i (Nat.lt_of_lt_of_le hi h.size) (fun e => by have := hr i e.symm; omega)).trans (h.block i hi hne)⟩
/-- the row was changed by the call itself -/
theorem Made.step {B g k : Nat} {w wr w' : World} {v v' : Value} {L L' : List It} (h : Made B g k w wr v L) (hown : OwnI w' w.heap.size v' L') (hsane : IM.sanes L') (hg : wr.grownBy w' v.ownBlock) : Made B g k w w' v' L' := by
  obtain ⟨k', hk', hs⟩ := h.strm
  have hr : ∀ k, v.ownBlock = some k → w.heap.size ≤ k := h.own.base_le
  have hgl := h.gl
  have hB := hs.le
  have ht := h.top
  have hz := h.grown.size
  refine ⟨hown, hsane, ⟨k', hk', hs.grown hg (fun e => by have := hr g e; omega) (fun j e => by have := hr j e; omega)⟩, grown_own h.grown hg hr, ?_, h.top, h.gl⟩
  exact h.tabs.keep hg.size fun i hi => hg.block i (by omega) (fun e => by have := hr i e.symm; omega)
theorem Made.alloc {B g k : Nat} {w wr : World} {v : Value} {L : List It} (h : Made B g k w wr v L) (o : Obj) : Made B g k w (wr.alloc o) v L := h.below ((Below.refl _ _).alloc (Nat.le_refl _) _)
def RightRel (B g k : Nat) (w : World) (many : Nat) (out i : Value) (wr : World) : Prop := ∃ (j : Nat) (L : List It), i = .int .i64 j ∧ j ≤ many ∧ L.length ≤ j ∧ Made B g (k + 300 * j) w wr out L

/-- a row of items of the call's own -/
def TookL (B g k many : Nat) (w : World) (e : Ending) (w' : World) : Prop := ∃ (v : Value) (L : List It), e = .returned v ∧ L.length ≤ many ∧ Made B g k w w' v L
def RightRel2 (B g k : Nat) (w : World) (A : Option Addr) (n cap : Nat) (i : Value) (wr : World) : Prop := ∃ (j : Nat) (L : List It), i = .int .i64 j ∧ j ≤ n ∧ L.length = n ∧ Made B g (k + 2 * j) w wr (.slice A n cap) L
set_option maxRecDepth 100000 in
set_option maxHeartbeats 8000000 in
theorem RightItems_any (many : Nat) (hm : many ≤ 100000) (B g k : Nat) (hk : k < 1000000000) (w : World) (hs : Strm w B g k) (hT : Tabs w) (ht : tabTop ≤ g) :
    Calls Tryz.prog 53 #[.pointer (some ⟨g, 0, none⟩), .int .i64 many] w (TookL B g (k + 300 * many + 10 * many) many w) := by
  have hgl := hs.lt
  go_enter Tryz.func53, Tryz.ntmps53
  go_wp2_with fail
  go_loopw [5, 12] (fun out i wr => RightRel B g k w many out i wr) (fun _ i _ => many - (intOf i).toNat)
  case atStart => exact ⟨0, [], rfl, by omega, by simp, OwnI.nil _ _, fun i x h => by simp at h, ⟨k, by omega, hs⟩, World.grownBy.refl _ _, hT, ht, hgl⟩
  case round =>
    obtain ⟨j, L, rfl, hj, hLj, hM⟩ := hrel
    by_cases hlt : j < many
    · go_wp2_with fail
      refine (itemId_any j (by omega) (by omega) _).mono ?_
      rintro e w1 ⟨rfl, rfl⟩
      have hids := idS_size j
      go_wp2_with fail
      obtain ⟨k1, hk1, hs1⟩ := hM.strm
      refine (Item_any (idS j) (by omega) B g k1 (by omega) _ hs1).mono ?_
      rintro e w2 ⟨x, hx, rfl, ⟨k2, hk2, hs2⟩, hg2⟩
      replace hM := hM.call hg2 ⟨k2, (show k2 ≤ k + 300 * (j + 1) by omega), hs2⟩
      clear hs1 hs2 hg2
      clear hids
      unfold It.cells
      go_upto_region 6 with (fail)
      have hI := InItem.start x w2 30 hM.tabs
      revert hI
      show (InItem x w2 (w2.alloc (.cells #[.string x.id, .string x.cu, .int .i64 x.kind, .string x.name, .int .i64 x.at', .string x.parent, .string x.text] 30)) → _)
      generalize (w2.alloc (.cells #[.string x.id, .string x.cu, .int .i64 x.kind, .string x.name, .int .i64 x.at', .string x.parent, .string x.text] 30)) = w3
      intro hI
      replace hM := hM.below hI.below
      obtain ⟨c0, c1, c2, c3, c4, c5, c6⟩ := id hI.box
      obtain ⟨q, hq⟩ : ∃ q, (x.id.toList == (idS j).toList) = q := ⟨_, rfl⟩
      cases q
      · go_quiet (first | (refine Calls.quiet_of_same (itemId_any _ (by omega) (by omega) _)))
        go_wp2_with fail
        exact ⟨⟨j + 1, L, rfl, by omega, by omega, (hM.below (below_drewN (Below.refl _ _) _)).le (by omega)⟩, by simp [intOf]; omega⟩
      · obtain ⟨p, hp⟩ : ∃ p, x.parent.toList.isEmpty = p := ⟨_, rfl⟩
        cases p
        · go_quiet (first | (refine Calls.quiet_of_same (itemId_any _ (by omega) (by omega) _)))
          go_wp2_with fail
          exact ⟨⟨j + 1, L, rfl, by omega, by omega, (hM.below (below_drewN (Below.refl _ _) _)).le (by omega)⟩, by simp [intOf]; omega⟩
        · have hI4 : InItem x w2 w3.drew := hI.step (below_drew w3)
          have e0 : w3.drew.cell? ⟨w2.heap.size, 0, none⟩ = _ := c0
          have e1 : w3.drew.cell? ⟨w2.heap.size, 1, none⟩ = _ := c1
          have e2 : w3.drew.cell? ⟨w2.heap.size, 2, none⟩ = _ := c2
          have e3 : w3.drew.cell? ⟨w2.heap.size, 3, none⟩ = _ := c3
          have e4 : w3.drew.cell? ⟨w2.heap.size, 4, none⟩ = _ := c4
          have e5 : w3.drew.cell? ⟨w2.heap.size, 5, none⟩ = _ := c5
          have e6 : w3.drew.cell? ⟨w2.heap.size, 6, none⟩ = _ := c6
          have hIF := ItemFault_any x hx.1 w3.drew hI4.tabs
          unfold It.cells at hIF
          go_region_held3 (fun w' => w'.cell? ⟨w2.heap.size, 0, none⟩ = some (.string x.id) ∧ w'.cell? ⟨w2.heap.size, 1, none⟩ = some (.string x.cu) ∧ w'.cell? ⟨w2.heap.size, 2, none⟩ = some (.int .i64 x.kind) ∧ w'.cell? ⟨w2.heap.size, 3, none⟩ = some (.string x.name) ∧ w'.cell? ⟨w2.heap.size, 4, none⟩ = some (.int .i64 x.at') ∧ w'.cell? ⟨w2.heap.size, 5, none⟩ = some (.string x.parent) ∧ w'.cell? ⟨w2.heap.size, 6, none⟩ = some (.string x.text))
            (first | (with_reducible exact ⟨c0, c1, c2, c3, c4, c5, c6⟩) | (with_reducible exact ⟨e0, e1, e2, e3, e4, e5, e6⟩) | (with_reducible exact ⟨g0, g1, g2, g3, g4, g5, g6⟩))
            (first | ((with_reducible refine (itemId_any _ (by omega) (by omega) _).mono ?_); rintro e w4 ⟨rfl, rfl⟩) | ((with_reducible refine hIF.mono ?_); rintro e w5 ⟨rfl, hw5⟩; replace hI4 := hI4.step hw5; obtain ⟨g0, g1, g2, g3, g4, g5, g6⟩ := id hI4.box))
          replace hM := (hM.below (below_drew w3)).below hw5
          clear hIF e0 e1 e2 e3 e4 e5 e6 c0 c1 c2 c3 c4 c5 c6
          obtain ⟨f, hf⟩ : ∃ f, x.fault = f := ⟨_, rfl⟩
          rw [hf]
          clear hf
          by_cases hf0 : f = 0
          · subst hf0
            have hsz := hM.grown.size
            go_wp2_with (at_builtin; refine app_item _ rfl (.tmp 34) (.tmp 36) rfl w.heap.size u5 L rfl (hM.own.alloc _) _ x rfl ?_ (liti_cells w5 x _) ?d1 ?d2; intro v2 w6 hown2 hg2)
            case d1 => omega
            case d2 => first | omega | (simp; omega)
            exact ⟨⟨j + 1, L ++ [x], rfl, by omega, by simp; omega, ((hM.alloc _).step hown2 (hM.sane.snoc hx) hg2).le (by omega)⟩, by simp [intOf]; omega⟩
          · have qf : (f != 0) = true := bne_iff_ne.2 hf0
            go_wp2_with fail
            exact ⟨⟨j + 1, L, rfl, by omega, by omega, hM.le (by omega)⟩, by simp [intOf]; omega⟩
    · obtain ⟨A, cap, hv, hr⟩ := hM.own.form
      subst hv
      generalize hn : L.length = n at *
      replace hM := hM.le (show k + 300 * j ≤ k + 300 * many by omega)
      have hnm : n ≤ many := by omega
      clear hr hLj
      go_wp2_with fail
      go_loopw [41] (fun i wr => RightRel2 B g (k + 300 * many) w A n cap i wr) (fun i _ => n - (intOf i).toNat)
      case atStart => exact ⟨0, L, rfl, by omega, hn, hM.le (by omega)⟩
      case round =>
        clear hM hn L
        obtain ⟨i, L, rfl, hi, hn, hM⟩ := hrel
        by_cases hlt2 : i < n
        · go_wp2_with fail
          obtain ⟨k1, hk1, hs1⟩ := hM.strm
          refine (Flip_any _ (by omega) (by omega) B g k1 (by omega) _ hs1).mono ?_
          rintro e w1 ⟨b, rfl, hs2, hg2⟩
          replace hM := hM.call hg2 ⟨_, (show k1 + 1 ≤ k + 300 * many + 2 * i + 1 by omega), hs2⟩
          clear hs1 hg2
          cases b
          · go_wp2_with fail
            refine (Next_any _ (by omega) (by omega) B g (k1 + 1) (by omega) _ hs2).mono ?_
            rintro e w2 ⟨r, hr1, hr2, rfl, hs3, hg3⟩
            obtain ⟨q, rfl⟩ := Int.eq_ofNat_of_zero_le hr1
            replace hM := hM.call hg3 ⟨_, (show k1 + 1 + 1 ≤ k + 300 * many + 2 * (i + 1) by omega), hs3⟩
            clear hs2 hg3 hs3
            obtain ⟨hn2, hr⟩ := hM.own.read
            obtain ⟨G, rfl, hGb, hGl⟩ := hr.at_ (by omega)
            obtain ⟨x, hx⟩ : ∃ x, L[i]? = some x := ⟨_, List.getElem?_eq_getElem (by omega)⟩
            obtain ⟨y, hy⟩ : ∃ y, L[q]? = some y := ⟨_, List.getElem?_eq_getElem (by omega)⟩
            have hxs := hM.sane i x hx
            have hys := hM.sane q y hy
            have hxs1 : It.sane ⟨x.id, x.cu, x.kind, x.name, x.at', y.id, x.text⟩ := ⟨⟨hxs.1.1, hxs.1.2.1, hxs.1.2.2.1, hys.1.1, hxs.1.2.2.2.2⟩, hxs.2⟩
            have hown := hM.own
            rw [hn2] at hown
            have c5 := (OwnI.at_ hown rfl hx).c5
            have d0 := (OwnI.at_ hown rfl hy).c0
            have cf := OwnI.frozen hown (i * 7 + 5)
            have hst := OwnI.store (f := 5) (x' := ⟨x.id, x.cu, x.kind, x.name, x.at', y.id, x.text⟩) (u := .string y.id) hown hx (by omega) rfl
            rw [← hn2] at hst
            have hM3 := hM.step hst (hM.sane.set hxs1) (grown_set _ G _ _)
            have hcap := hr.cap_
            have hn' := hn
            clear hown hst hx hy hn2 hn
            go_upto_region 16 with (fail)
            clear c5 d0 cf hM
            revert hM3
            generalize (w2.setCell ⟨G, i * 7 + 5, none⟩ (.string y.id)) = w3
            intro hM
            have HN := Lib.hid hn'
            by_cases hqi : q = i
            · have q1 : ((q : Int) == (i : Int)) = true := beq_iff_eq.2 (by omega)
              go_upto_region 17 with (fail)
              clear q1
              obtain ⟨hn3, hr3⟩ := hM.own.read
              obtain ⟨G', hG', hGb', hGl'⟩ := hr3.at_ (by omega)
              have hx3 : (L.set i ⟨x.id, x.cu, x.kind, x.name, x.at', y.id, x.text⟩)[i]? = some ⟨x.id, x.cu, x.kind, x.name, x.at', y.id, x.text⟩ := by rw [List.getElem?_set_self (by omega)]
              have hown3 := hM.own
              rw [hn3] at hown3
              have c5 := (OwnI.at_ hown3 rfl hx3).c5
              have cf := OwnI.frozen hown3 (i * 7 + 5)
              have hst := OwnI.store (f := 5) (x' := x) (u := .string x.parent) hown3 hx3 (by omega) rfl
              rw [← hn3] at hst
              have hlen3 : ((L.set i ⟨x.id, x.cu, x.kind, x.name, x.at', y.id, x.text⟩).set i x).length = n := by rw [List.length_set]; exact hn3.symm
              have hM5 := hM.step hst (hM.sane.set hxs) (grown_set _ G _ _)
              have HLEN := Lib.hid hlen3
              clear hown3 hst hx3 hr3 hlen3 hG' hn3 hr
              go_wp2_with fail
              exact ⟨⟨i + 1, _, rfl, by omega, HLEN.out, hM5.le (by omega)⟩, by simp [intOf]; omega⟩
            · have q1 : ((q : Int) == (i : Int)) = false := beq_eq_false_iff_ne.2 (by omega)
              obtain ⟨hn3, hr3⟩ := hM.own.read
              have hIF := ItemsFault_any _ _ cap w3 hr3.row hM.tabs hM.sane.smalls (by omega)
              rw [← hn3] at hIF
              clear hr3 hn3
              go_wp2_with fail
              refine hIF.mono ?_
              clear hIF
              generalize IM.fault _ = f
              rintro e w4 ⟨rfl, hw4⟩
              replace hM := hM.below hw4
              clear hw4
              by_cases hf0 : f = 0
              · have qf : (f != 0) = false := by rw [hf0]; rfl
                clear hf0
                go_wp2_with fail
                exact ⟨⟨i + 1, _, rfl, by omega, by rw [List.length_set]; exact HN.out, hM.le (by omega)⟩, by simp [intOf]; omega⟩
              · have qf : (f != 0) = true := bne_iff_ne.2 hf0
                clear hf0
                go_upto_region 17 with (fail)
                clear qf q1
                obtain ⟨hn3, hr3⟩ := hM.own.read
                obtain ⟨G', hG', hGb', hGl'⟩ := hr3.at_ (by omega)
                have hx3 : (L.set i ⟨x.id, x.cu, x.kind, x.name, x.at', y.id, x.text⟩)[i]? = some ⟨x.id, x.cu, x.kind, x.name, x.at', y.id, x.text⟩ := by rw [List.getElem?_set_self (by omega)]
                have hown3 := hM.own
                rw [hn3] at hown3
                have c5 := (OwnI.at_ hown3 rfl hx3).c5
                have cf := OwnI.frozen hown3 (i * 7 + 5)
                have hst := OwnI.store (f := 5) (x' := x) (u := .string x.parent) hown3 hx3 (by omega) rfl
                rw [← hn3] at hst
                have hlen3 : ((L.set i ⟨x.id, x.cu, x.kind, x.name, x.at', y.id, x.text⟩).set i x).length = n := by rw [List.length_set]; exact hn3.symm
                have hM5 := hM.step hst (hM.sane.set hxs) (grown_set _ G _ _)
                have HLEN := Lib.hid hlen3
                clear hown3 hst hx3 hr3 hlen3 hG' hn3 hr
                go_wp2_with fail
                exact ⟨⟨i + 1, _, rfl, by omega, HLEN.out, hM5.le (by omega)⟩, by simp [intOf]; omega⟩
          · go_wp2_with fail
            exact ⟨⟨i + 1, L, rfl, by omega, hn, hM.le (by omega)⟩, by simp [intOf]; omega⟩
        · go_wp2_with fail
          go_ret
          exact ⟨_, L, rfl, by omega, hM.le (by omega)⟩
end Go.Proofs.YthhfbcddjnjllaaGreatDoor
