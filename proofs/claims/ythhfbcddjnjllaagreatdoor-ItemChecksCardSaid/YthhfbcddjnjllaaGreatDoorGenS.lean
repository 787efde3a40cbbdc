/- Contract of the maker of items. -/
import Derived.Test.YthhfbcddjnjllaaGreatDoorGenR
namespace Go.Proofs.YthhfbcddjnjllaaGreatDoor
open Go.RowKit

theorem izz_all {u v : ByteArray} (hu : u.size ≤ 1000000) (hv : v.size ≤ 1000000) : List.all [Value.string ⟨#[105, 122, 122]⟩, .string u, .string v] (strV 1000000) = true := by
  simp only [List.all_cons, List.all_nil, strV, Bool.and_true, Bool.and_eq_true, decide_eq_true_eq]
  exact ⟨by decide, hu, hv⟩
theorem izz_new (i : Int) (v : ByteArray) (hv : v.size ≤ 1000000) (B g k : Nat) (hk : k < 1000000000000) (wr : World) (hs : Strm wr B g k) :
    Calls Tryz.prog 68 #[.pointer (some ⟨g, 0, none⟩), .slice (some ⟨wr.heap.size, 0, none⟩) 3 3] (wr.alloc (.cells #[.string ⟨#[105, 122, 122]⟩, .string (idS i), .string v] 9)) (TookS 1000000 B g (k + 1) wr) :=
  some10_new 3 [.string ⟨#[105, 122, 122]⟩, .string (idS i), .string v] 1000000 _ B g k wr hs rfl (by omega) (by omega) (izz_all (Nat.le_trans (idS_size i) (by decide)) hv) hk
theorem cell_off {w : World} {b i j : Nat} (v : Value) (h : j ≠ i) : (w.setCell ⟨b, i, none⟩ v).cell? ⟨b, j, none⟩ = w.cell? ⟨b, j, none⟩ :=
  World.cell?_setCell_other w ⟨b, i, none⟩ ⟨b, j, none⟩ v (by intro e; (simp at e <;> omega))
theorem tookL_of {B g k K many : Nat} {w w' : World} {v : Value} {L : List It} (h : Made B g k w w' v L) (hl : L.length ≤ many) (hk : k ≤ K) : TookL B g K many w (.returned v) w' := ⟨v, L, rfl, hl, h.le hk⟩
def LoopS (B g k : Nat) (w : World) (A : Option Addr) (n cap : Nat) (i : Value) (wr : World) : Prop := ∃ (j : Nat) (L : List It), i = .int .i64 j ∧ j ≤ 4 ∧ L.length = n ∧ Made B g (k + 2 * j) w wr (.slice A n cap) L

set_option maxRecDepth 100000 in
set_option maxHeartbeats 16000000 in
theorem Items_any (many : Nat) (hm : many ≤ 1000) (B g k : Nat) (hk : k < 1000000) (w : World) (hs : Strm w B g k) (hT : Tabs w) (ht : tabTop ≤ g) :
    Calls Tryz.prog 12 #[.pointer (some ⟨g, 0, none⟩), .int .i64 many] w (TookL B g (k + 310 * many + 1000) (many + 1) w) := by
  go_enter Tryz.func12, Tryz.ntmps12
  go_wp2_with fail
  refine (RightItems_any many (by omega) B g k (by omega) _ hs hT ht).mono ?_
  rintro e w1 ⟨v, L, rfl, hL, hM⟩
  obtain ⟨A, cap, hv, hr⟩ := hM.own.form
  subst hv
  generalize hn : L.length = n at *
  replace hM := hM.le (show k + 300 * many + 10 * many ≤ k + 310 * many by omega)
  by_cases h0 : 0 < n
  · have h0' : 0 < (n : Int) := by omega
    obtain ⟨G, rfl, hGb, hGl⟩ := hr.at_ (by omega)
    have hcap := hr.cap_
    rw [hn] at hcap
    have HN := Lib.hid hn
    clear hr hn hGl
    go_wp2_with fail
    obtain ⟨k1, hk1, hs1⟩ := hM.strm
    refine (Flip_any _ (by omega) (by omega) B g k1 (by omega) _ hs1).mono ?_
    rintro e w2 ⟨b, rfl, hs2, hg2⟩
    replace hM := hM.call hg2 ⟨_, (show k1 + 1 ≤ k + 310 * many + 1 by omega), hs2⟩
    clear hs1 hg2
    cases b
    · go_wp2_with fail
      go_ret
      exact tookL_of hM (by have := HN.out; omega) (by omega)
    · go_wp2_with fail
      refine (Next_any _ (by omega) (by omega) B g (k1 + 1) (by omega) _ hs2).mono ?_
      rintro e w3 ⟨r, hr1, hr2, rfl, hs3, hg3⟩
      obtain ⟨q, rfl⟩ := Int.eq_ofNat_of_zero_le hr1
      replace hM := hM.call hg3 ⟨_, (show k1 + 1 + 1 ≤ k + 310 * many + 2 by omega), hs3⟩
      clear hs2 hg3
      go_wp2_with fail
      refine (Next_any _ (by omega) (by omega) B g (k1 + 1 + 1) (by omega) _ hs3).mono ?_
      rintro e w4 ⟨r, hr3, hr4, rfl, hs4, hg4⟩
      obtain ⟨c, rfl⟩ := Int.eq_ofNat_of_zero_le hr3
      replace hM := hM.call hg4 ⟨_, (show k1 + 1 + 1 + 1 ≤ k + 310 * many + 3 by omega), hs4⟩
      clear hs3 hg4
      have hc : c = 0 ∨ c = 1 ∨ c = 2 ∨ c = 3 ∨ c = 4 := by omega
      clear hr1 hr3 hr4
      obtain ⟨x, hx⟩ : ∃ x, L[q]? = some x := ⟨_, List.getElem?_eq_getElem (by have := HN.out; omega)⟩
      have hxs := hM.sane q x hx
      rcases hc with rfl | rfl | rfl | rfl | rfl
      · have hat := OwnI.at_ hM.own HN.out.symm hx
        have c0 := hat.c0
        have e0 : w4.drew.cell? ⟨G, q * 7, none⟩ = some (.string x.id) := c0
        have hMd : Made B g (k + 310 * many + 3) w w4.drew (.slice (some ⟨G, 0, none⟩) n cap) L := hM.below (below_drew w4)
        have hsd : Strm w4.drew B g (k1 + 1 + 1 + 1) := hs4.drew
        have HX := Lib.hid hx
        have hmn : 1 ≤ (many : Int) := by omega
        have hids := fun i : Nat => Nat.le_trans (idS_size (i : Int)) (show 9 ≤ 1000000 by decide)
        have hNx := Next_any (many : Int) hmn (by omega) B g (k1 + 1 + 1 + 1) (by omega) w4.drew hsd
        clear hx hat hids
        go_wp2_with fail
        have hkk : k1 + 1 + 1 + 1 + 1 < 1000000000000 := by omega
        have hxid : x.id.size ≤ 1000000 := hxs.1.1
        have hle5 : k1 + 1 + 1 + 1 + 1 ≤ k + 310 * many + 4 := by omega
        have hle7 : k1 + 1 + 1 + 1 + 1 + 1 ≤ k + 310 * many + 5 := by omega
        have hmm : (many : Int) ≤ 1000000000000 := by omega
        have hq5 : q * 7 ≠ q * 7 + 5 := by omega
        go_region_held3 (fun w' => w'.cell? ⟨G, q * 7, none⟩ = some (.string x.id))
          (with_reducible assumption)
          (first
            | ((with_reducible refine hNx.mono ?_); rintro e w5 ⟨r, hr1, hr2', rfl, hs5, hg5⟩; obtain ⟨i, rfl⟩ := Int.eq_ofNat_of_zero_le hr1; have hM5 := hMd.call hg5 ⟨_, hle5, hs5⟩; have p0 := (OwnI.at_ hM5.own HN.out.symm HX.out).c0; have z1 : (0 : Int) ≤ (i : Int) := Int.natCast_nonneg i; have z2 : (i : Int) ≤ 1000000000000 := Int.le_trans (Int.le_of_lt hr2') hmm; have p1 := (OwnI.at_ (hM5.alloc (.cells #[.string ⟨#[105, 122, 122]⟩, .string (idS (i : Int)), .string x.id] 9)).own HN.out.symm HX.out).c0)
            | ((with_reducible refine (itemId_any _ z1 z2 _).mono ?_); rintro e w6 ⟨rfl, rfl⟩)
            | ((with_reducible refine (izz_new (i : Int) x.id hxid B g (k1 + 1 + 1 + 1 + 1) hkk _ hs5).mono ?_); rintro e w7 ⟨u, hu, rfl, ⟨k7, hk7, hs7⟩, hg7⟩; have hM7 := hM5.call hg7 ⟨_, Nat.le_trans hk7 hle7, hs7⟩; have hat := OwnI.at_ hM7.own HN.out.symm HX.out; have r0 := hat.c0; have d5 := hat.c5; have f5 := OwnI.cold hM7.own HN.out (q * 7 + 5); have r1 := (cell_off (w := w7) (b := G) (.string u) hq5).trans r0))
        go_wp2_with fail
        go_ret
        have hM8 := hM7.step (OwnI.put (f := 5) (x' := ⟨x.id, x.cu, x.kind, x.name, x.at', u, x.text⟩) (u := .string u) hM7.own HN.out HX.out (by omega) rfl) (hM7.sane.set ⟨⟨hxs.1.1, hxs.1.2.1, hxs.1.2.2.1, hu, hxs.1.2.2.2.2⟩, hxs.2⟩) (grown_set _ G _ _)
        exact tookL_of hM8 (by rw [List.length_set]; have := HN.out; omega) (by omega)
      · have hat := OwnI.at_ hM.own HN.out.symm hx
        have d0 := hat.c0
        clear hat
        go_wp2_with fail
        refine (Item_any x.id hxs.1.1 B g (k1 + 1 + 1 + 1) (by omega) _ hs4).mono ?_
        rintro e w5 ⟨y, hy, rfl, ⟨k5, hk5, hs5⟩, hg5⟩
        replace hM := hM.call hg5 ⟨_, (show k5 ≤ k + 310 * many + 900 by omega), hs5⟩
        clear hs5 hg5 hs4 d0
        have hat := OwnI.at_ hM.own HN.out.symm hx
        obtain ⟨c0, c1, c2, c3, c4, c5, c6⟩ := hat
        have f0 := OwnI.cold hM.own HN.out (q * 7)
        have f1 := OwnI.cold hM.own HN.out (q * 7 + 1)
        have f2 := OwnI.cold hM.own HN.out (q * 7 + 2)
        have f3 := OwnI.cold hM.own HN.out (q * 7 + 3)
        have f4 := OwnI.cold hM.own HN.out (q * 7 + 4)
        have f5 := OwnI.cold hM.own HN.out (q * 7 + 5)
        have f6 := OwnI.cold hM.own HN.out (q * 7 + 6)
        have HX := Lib.hid hx
        clear hx
        unfold It.cells
        go_wp2_with fail
        go_ret
        have hM6 := hM.step (OwnI.putAll (y := y) hM.own HN.out HX.out) (hM.sane.set hy) ((((((grown_set _ G _ _).trans (grown_set _ G _ _)).trans (grown_set _ G _ _)).trans (grown_set _ G _ _)).trans (grown_set _ G _ _)).trans (grown_set _ G _ _) |>.trans (grown_set _ G _ _))
        exact tookL_of hM6 (by rw [List.length_set]; have := HN.out; omega) (by omega)
      · obtain ⟨y, hy⟩ : ∃ y, L[0]? = some y := ⟨_, List.getElem?_eq_getElem (by have := HN.out; omega)⟩
        have hys := hM.sane 0 y hy
        have hat := OwnI.at_ hM.own HN.out.symm hy
        rw [Nat.zero_mul] at hat
        obtain ⟨c0, c1, c2, c3, c4, c5, c6⟩ := hat
        rw [Nat.zero_add] at c1 c2 c3 c4 c5 c6
        have hsz := hM.grown.size
        have hnn : 0 < n := h0
        clear hx hy
        go_wp2_with (at_builtin; refine app_item _ rfl (.tmp 75) (.tmp 79) rfl w.heap.size _ L rfl (hM.own.alloc _) _ y rfl ?_ (liti_cells w4 y _) ?d1 ?d2; intro v2 w6 hown2 hg2)
        case d1 => have := HN.out; omega
        case d2 => first | omega | (simp; omega)
        go_ret
        exact tookL_of ((hM.alloc _).step hown2 (hM.sane.snoc hys) hg2) (by rw [List.length_append]; have := HN.out; simp; omega) (by omega)
      · go_wp2_with fail
        refine (odd10_any 1 4 (by omega) (by omega) (by omega) B g (k1 + 1 + 1 + 1) (by omega) _ hs4).mono ?_
        rintro e w5 ⟨z, hz1, hz2, rfl, ⟨k5, hk5, hs5⟩, hg5⟩
        replace hM := hM.call hg5 ⟨_, (show k5 ≤ k + 310 * many + 900 by omega), hs5⟩
        clear hs5 hg5 hs4
        have hat := OwnI.at_ hM.own HN.out.symm hx
        have c2 := hat.c2
        have f2 := OwnI.cold hM.own HN.out (q * 7 + 2)
        have HX := Lib.hid hx
        clear hx hat
        go_wp2_with fail
        go_ret
        have hM6 := hM.step (OwnI.put (f := 2) (x' := ⟨x.id, x.cu, z, x.name, x.at', x.parent, x.text⟩) (u := .int .i64 z) hM.own HN.out HX.out (by omega) rfl) (hM.sane.set ⟨hxs.1, ⟨hz1, hz2⟩, hxs.2.2⟩) (grown_set _ G _ _)
        exact tookL_of hM6 (by rw [List.length_set]; have := HN.out; omega) (by omega)
      · clear hx hxs hs4
        go_wp2_with fail
        go_loopw [24] (fun i wr => LoopS B g (k + 310 * many + 3) w (some ⟨G, 0, none⟩) n cap i wr) (fun i _ => 4 - (intOf i).toNat)
        case atStart => exact ⟨0, L, rfl, by omega, HN.out, hM⟩
        case round =>
          clear hM HN x L
          obtain ⟨j, L, rfl, hj, hn, hM⟩ := hrel
          have HN := Lib.hid hn
          clear hn
          by_cases hlt : j < 4
          · obtain ⟨k5, hk5, hs5⟩ := hM.strm
            go_wp2_with fail
            refine (Next_any _ (by omega) (by omega) B g k5 (by omega) _ hs5).mono ?_
            rintro e w5 ⟨r, hr1, hr2, rfl, hs6, hg6⟩
            obtain ⟨i, rfl⟩ := Int.eq_ofNat_of_zero_le hr1
            replace hM := hM.call hg6 ⟨_, (show k5 + 1 ≤ k + 310 * many + 3 + 2 * j + 1 by omega), hs6⟩
            clear hs5 hg6
            go_wp2_with fail
            refine (Next_any _ (by omega) (by omega) B g (k5 + 1) (by omega) _ hs6).mono ?_
            rintro e w6 ⟨r, hr3, hr4, rfl, hs7, hg7⟩
            obtain ⟨o, rfl⟩ := Int.eq_ofNat_of_zero_le hr3
            replace hM := hM.call hg7 ⟨_, (show k5 + 1 + 1 ≤ k + 310 * many + 3 + 2 * (j + 1) by omega), hs7⟩
            clear hs6 hg7 hs7 hr1 hr3
            obtain ⟨x, hx⟩ : ∃ x, L[i]? = some x := ⟨_, List.getElem?_eq_getElem (by have := HN.out; omega)⟩
            obtain ⟨y, hy⟩ : ∃ y, L[o]? = some y := ⟨_, List.getElem?_eq_getElem (by have := HN.out; omega)⟩
            have hxs := hM.sane i x hx
            have hys := hM.sane o y hy
            have c5 := (OwnI.at_ hM.own HN.out.symm hx).c5
            have d0 := (OwnI.at_ hM.own HN.out.symm hy).c0
            have f5 := OwnI.cold hM.own HN.out (i * 7 + 5)
            have HX := Lib.hid hx
            clear hx hy
            go_wp2_with fail
            have hM8 := hM.step (OwnI.put (f := 5) (x' := ⟨x.id, x.cu, x.kind, x.name, x.at', y.id, x.text⟩) (u := .string y.id) hM.own HN.out HX.out (by omega) rfl) (hM.sane.set ⟨⟨hxs.1.1, hxs.1.2.1, hxs.1.2.2.1, hys.1.1, hxs.1.2.2.2.2⟩, hxs.2⟩) (grown_set _ G _ _)
            exact ⟨⟨j + 1, _, rfl, by omega, by rw [List.length_set]; exact HN.out, hM8⟩, by simp [intOf]; omega⟩
          · go_wp2_with fail
            go_ret
            exact tookL_of hM (by have := HN.out; omega) (by omega)
  · have h0' : ¬ 0 < (n : Int) := by omega
    have HN := Lib.hid hn
    clear hn
    go_wp2_with fail
    go_ret
    exact tookL_of hM (by have := HN.out; omega) (by omega)
end Go.Proofs.YthhfbcddjnjllaaGreatDoor
