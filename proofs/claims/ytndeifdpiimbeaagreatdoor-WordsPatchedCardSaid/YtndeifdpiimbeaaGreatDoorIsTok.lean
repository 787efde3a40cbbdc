/- Contracts of strings.IndexAny, ContainsAny where there is neither a blank nor a line feed; of near.isToken, areTokens. -/
import Derived.Test.YtndeifdpiimbeaaGreatDoorAny
import Derived.Test.YtndeifdpiimbeaaGreatDoorTab0
import Derived.Lib.OthersKept
namespace Go.Proofs.YtndeifdpiimbeaaGreatDoor
open Go.RowKit

theorem blank_low (x : UInt8) (h1 : x ≠ 10) (h2 : x ≠ 32) (hx : x.toNat < 128) (w : World) : Calls Tryz.prog 92 #[.string ⟨#[32, 10]⟩, .int .i32 (x.toNat : Nat)] w fun e w' => e = .returned (.int .i64 (-1)) ∧ Below w.heap.size w w' := by
  refine (Any.strings_IndexRune_ascii { Tryz.lays153 with } ⟨#[32, 10]⟩ (x.toNat : Nat) w (by omega) (by omega)).mono ?_
  rintro e w' ⟨rfl, rfl⟩
  refine ⟨?_, Below.refl _ _⟩
  have hb : ((x.toNat : Int)).toNat.toUInt8 = x := by simp
  rw [hb]
  have : Lib.indexByte [32, 10] x = -1 := by
    simp [Lib.indexByte, Ne.symm h1, Ne.symm h2]
  exact congrArg (fun z => Ending.returned (Value.int .i64 z)) this
theorem noAny (s : ByteArray) (hok : WM.okW s.data.toList) : Lib.indexAny s.data.toList [32, 10] = -1 := by
  apply Lib.indexAny_none
  intro j b _ hb
  have := hok b (List.mem_of_getElem? hb)
  simp [this.1, this.2]
theorem useSet (n : Int) (w : World) : Calls Tryz.prog 93 #[.int .i64 n] w fun e w' => e = .returned (.bool (decide (8 < n))) ∧ w' = w := Any.strings_shouldUseASCIISet { Tryz.lays153 with } n w
theorem info_set : (Tryz.prog.info? 129).map (fun i => (i.zero, i.size)) = some (some (.agg (Array.replicate 256 (.bool false))), 256) := by kernel_rfl
set_option maxHeartbeats 4000000 in
set_option maxRecDepth 100000 in
theorem IndexAny_no (s : ByteArray) (hs : s.size ≤ 1000000000) (hok : WM.okW s.data.toList) (w : World) : Calls Tryz.prog 74 #[.string s, .string ⟨#[32, 10]⟩] w fun e w' => e = .returned (.int .i64 (-1)) ∧ Below w.heap.size w w' := by
  by_cases h8 : 8 < s.size
  · have hz := zero_of_info info_set
    refine (Any.strings_IndexAny_long Tryz.lays153 hz.1 hz.2 s ⟨#[32, 10]⟩ w (by decide) h8 (by omega) (by decide) (fun j b hb => ?_)).mono ?_
    · have : b ∈ [(32 : UInt8), 10] := List.mem_of_getElem? hb
      simp at this
      rcases this with rfl | rfl <;> decide
    · rintro e w' ⟨rfl, rfl⟩
      exact ⟨congrArg (fun z => Ending.returned (Value.int .i64 z)) (noAny s hok), ((Below.refl _ _).alloc (Nat.le_refl _) _).alloc (by simp) _⟩
  · have hU := useSet s.size w
    rw [show decide ((8 : Int) < (s.size : Int)) = false from decide_eq_false (by omega)] at hU
    have HK := Lib.hid hok
    clear hok
    go_enter Tryz.func74, Tryz.ntmps74
    go_wp2_with fail
    refine hU.mono ?_
    rintro e w1 ⟨rfl, hw1⟩
    subst hw1
    go_wp2_with fail
    go_loopw [9, 10] (fun _ _ wx => ∃ i : Nat, wx.heap[w1.heap.size]? = some (.stringIter s i) ∧ Below w1.heap.size w1 wx) (fun _ _ wx => s.size - wx.iterPos w1.heap.size)
    case atStart => exact ⟨0, World.iter_heap _ _ _, (Below.refl _ _).alloc (Nat.le_refl _) _⟩
    case round =>
      obtain ⟨i, hit, hbw⟩ := hrel
      obtain ⟨wo, rfl⟩ : ∃ wo : World, wo = wr := ⟨_, rfl⟩
      have hpos : wo.iterPos w1.heap.size = i := by simp [World.iterPos, hit]
      by_cases hi : i < s.size
      · by_cases ha : (s[i]'hi).toNat < 128
        · have hnx := fun ty => Lib.run_next_ascii_at (P := Tryz.prog) wo w1.heap.size s i ty hit hi ha
          have hbx := HK.out (s[i]'hi) (by simp [ByteArray.getElem_eq_getElem_data])
          have hR := fun W => blank_low (s[i]'hi) hbx.1 hbx.2 ha W
          generalize s[i]'hi = x at *
          have HI := Lib.hid (And.intro (Lib.iterAt_heap wo w1.heap.size s i (i + 1) hit) (Lib.below_iterAt hbw (Nat.le_refl _) s (i + 1)))
          clear hit hbw ha hbx
          go_wp2_with fail
          refine (hR _).mono ?_
          rintro e w2 ⟨rfl, hb2⟩
          have hk : w1.heap.size < (wo.iterAt w1.heap.size s (i + 1)).heap.size := (Array.getElem?_eq_some_iff.1 HI.out.1).1
          have H2 := Lib.hid (And.intro ((hb2.block _ hk).trans HI.out.1) (HI.out.2.trans (hb2.mono (Nat.le_of_lt hk))))
          clear hR hb2 hnx
          go_wp2_with fail
          refine ⟨⟨i + 1, H2.out⟩, ?_⟩
          have : w2.iterPos w1.heap.size = i + 1 := by simp [World.iterPos, H2.out.1]
          rw [this, hpos]; omega
        · have hd := decode_high s i hi (by omega)
          have hle := decode_le s i
          have hnx := fun ty => Lib.run_next_any_at (P := Tryz.prog) wo w1.heap.size s i ty hit hi
          generalize hdd : Utf8.decode s i = dd at *
          obtain ⟨r, n⟩ := dd
          simp only at hd hle hnx
          have hR := fun W => IndexRune_hi r (by have := hd.1; omega) (by omega) W
          have HI := Lib.hid (And.intro (Lib.iterAt_heap wo w1.heap.size s i (i + n) hit) (Lib.below_iterAt hbw (Nat.le_refl _) s (i + n)))
          have HD := Lib.hid hd
          clear hit hbw ha hdd hd hle
          go_wp2_with fail
          refine (hR _).mono ?_
          rintro e w2 ⟨rfl, hb2⟩
          have hk : w1.heap.size < (wo.iterAt w1.heap.size s (i + n)).heap.size := (Array.getElem?_eq_some_iff.1 HI.out.1).1
          have H2 := Lib.hid (And.intro ((hb2.block _ hk).trans HI.out.1) (HI.out.2.trans (hb2.mono (Nat.le_of_lt hk))))
          clear hR hb2 hnx
          go_wp2_with fail
          refine ⟨⟨i + n, H2.out⟩, ?_⟩
          have : w2.iterPos w1.heap.size = i + n := by simp [World.iterPos, H2.out.1]
          have := HD.out.2
          rw [‹w2.iterPos w1.heap.size = i + n›, hpos]; omega
      · have hnx := fun ty => Lib.run_next_end_at (P := Tryz.prog) wo w1.heap.size s i ty hit hi
        have HW := Lib.hid hbw
        clear hit hbw
        go_wp2_with fail
        go_ret
        exact ⟨rfl, HW.out⟩
theorem ContainsAny_no (s : ByteArray) (hs : s.size ≤ 1000000000) (hok : WM.okW s.data.toList) (w : World) : Calls Tryz.prog 65 #[.string s, .string ⟨#[32, 10]⟩] w fun e w' => e = .returned (.bool false) ∧ Below w.heap.size w w' := by
  have hI := IndexAny_no s hs hok w
  clear hok
  go_enter Tryz.func65, Tryz.ntmps65
  go_wp2_with fail
  refine hI.mono ?_
  rintro e w1 ⟨rfl, hb1⟩
  go_wp2_with fail
  go_ret
  exact ⟨rfl, hb1⟩
theorem isToken_any (s : ByteArray) (hs : s.size ≤ 1000000000) (hok : WM.IsTok s) (w : World) : Calls Tryz.prog 56 #[.string s] w fun e w' => e = .returned (.bool true) ∧ Below w.heap.size w w' := by
  by_cases hn : s = WM.nl
  · subst hn
    have hb : (WM.nl.toList == [10]) = true := by decide +kernel
    go_enter Tryz.func56, Tryz.ntmps56
    go_wp2_with fail
    go_ret
    exact ⟨rfl, Below.refl _ _⟩
  · rcases hok with h | ⟨h1, h2⟩
    · exact absurd h hn
    · have hC := ContainsAny_no s hs h2 w
      have e10 : (s.toList == [10]) = false := beq_eq_false_iff_ne.2 (fun h => hn (tl_inj (h.trans (by decide +kernel))))
      have e0 : (s.toList == []) = false := beq_eq_false_iff_ne.2 (fun h => h1 (by rw [ByteArray.toList_eq] at h; exact h))
      have e0' : s.toList.isEmpty = false := by
        cases hq : s.toList with
        | nil => rw [hq] at e0; simp at e0
        | cons _ _ => rfl
      clear h1 h2 hn
      go_enter Tryz.func56, Tryz.ntmps56
      go_wp2_with fail
      refine hC.mono ?_
      rintro e w1 ⟨rfl, hb1⟩
      go_wp2_with fail
      go_ret
      exact ⟨rfl, hb1⟩
theorem areTokens_any (l : List ByteArray) (hl : ∀ x, x ∈ l → WM.IsTok x ∧ x.size ≤ 1000000000) (base : Nat) (v : Value) (w : World) (h : OwnS w base v l) : Calls Tryz.prog 40 #[v] w fun e w' => e = .returned (.bool true) ∧ Below w.heap.size w w' := by
  obtain ⟨A, cap, rfl, hr⟩ := h.rd
  have hn := h.len_le
  have HL := Lib.hid (And.intro hl hr)
  clear h hl hr
  go_enter Tryz.func40, Tryz.ntmps40
  go_wp2_with fail
  go_loopw [7] (fun i wr => ∃ k : Nat, k ≤ l.length ∧ i = .int .i64 k ∧ Below w.heap.size w wr) (fun i _ => l.length - (intOf i).toNat)
  case atStart => exact ⟨0, Nat.zero_le _, rfl, Below.refl _ _⟩
  case round =>
    obtain ⟨k, hk, rfl, hbw⟩ := hrel
    by_cases hlt : k < l.length
    · obtain ⟨g, rfl, hg, hc⟩ := HL.out.2 (by omega)
      have hx := List.getElem?_eq_getElem hlt
      generalize l[k] = x at hx
      have d1 := (hbw.cell (p := ⟨g, k, none⟩) hg).trans (hc k x hx)
      have hT := fun W => isToken_any x (HL.out.1 x (List.mem_of_getElem? hx)).2 (HL.out.1 x (List.mem_of_getElem? hx)).1 W
      have HW := Lib.hid hbw
      clear hx hc hbw
      go_wp2_with fail
      refine (hT _).mono ?_
      rintro e w1 ⟨rfl, hb1⟩
      have H1 := Lib.hid (HW.out.trans (hb1.mono HW.out.size))
      clear hb1 hT d1
      go_wp2_with fail
      exact ⟨⟨k + 1, by omega, by simp, H1.out⟩, by simp [intOf]; omega⟩
    · have HW := Lib.hid hbw
      clear hbw
      go_wp2_with fail
      go_ret
      exact ⟨rfl, HW.out⟩
end Go.Proofs.YtndeifdpiimbeaaGreatDoor
