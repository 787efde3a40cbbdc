/- Contracts of near.isToken where it is none: the empty string and `a b`; of areTokens and beginsWith at any answer. -/
import Derived.Test.YtndeifdpiimbeaaGreatDoorIsTok
import Derived.Test.YtndeifdpiimbeaaGreatDoorPairs0
import Derived.Test.YtndeifdpiimbeaaGreatDoorPlain
namespace Go.Proofs.YtndeifdpiimbeaaGreatDoor
open Go.RowKit

def nilB : ByteArray := ⟨#[]⟩
def abB : ByteArray := ⟨#[97, 32, 98]⟩
/-- a token, or one of two strings that are none -/
def Odd (x : ByteArray) : Prop := WM.IsTok x ∨ x = nilB ∨ x = abB
theorem nil_not : ¬ WM.IsTok nilB := by
  rintro (h | ⟨h, _⟩)
  · exact absurd h (by decide +kernel)
  · exact h rfl
theorem ab_not : ¬ WM.IsTok abB := by
  rintro (h | ⟨_, h⟩)
  · exact absurd h (by decide +kernel)
  · exact (h 32 (by decide +kernel)).2 rfl
theorem blank_hit (w : World) : Calls Tryz.prog 92 #[.string ⟨#[32, 10]⟩, .int .i32 32] w fun e w' => e = .returned (.int .i64 0) ∧ Below w.heap.size w w' := by
  refine (Any.strings_IndexRune_ascii { Tryz.lays153 with } ⟨#[32, 10]⟩ 32 w (by omega) (by omega)).mono ?_
  rintro e w' ⟨rfl, rfl⟩
  exact ⟨rfl, Below.refl _ _⟩
set_option maxHeartbeats 4000000 in
theorem IndexAny_ab (w : World) : Calls Tryz.prog 74 #[.string abB, .string ⟨#[32, 10]⟩] w fun e w' => e = .returned (.int .i64 1) ∧ Below w.heap.size w w' := by
  have hU := useSet 3 w
  rw [show decide ((8 : Int) < 3) = false from rfl] at hU
  have hz : abB.size = 3 := rfl
  go_enter Tryz.func74, Tryz.ntmps74
  go_wp2_with fail
  refine hU.mono ?_
  rintro e w1 ⟨rfl, hw1⟩
  subst hw1
  go_wp2_with fail
  go_loopw [9, 10] (fun _ _ wx => ∃ i : Nat, i ≤ 1 ∧ wx.heap[w1.heap.size]? = some (.stringIter abB i) ∧ Below w1.heap.size w1 wx) (fun _ _ wx => abB.size - wx.iterPos w1.heap.size)
  case atStart => exact ⟨0, by omega, World.iter_heap _ _ _, (Below.refl _ _).alloc (Nat.le_refl _) _⟩
  case round =>
    obtain ⟨i, hi1, hit, hbw⟩ := hrel
    obtain ⟨wo, rfl⟩ : ∃ wo : World, wo = wr := ⟨_, rfl⟩
    have hpos : wo.iterPos w1.heap.size = i := by simp [World.iterPos, hit]
    have hi : i < abB.size := by rw [hz]; omega
    rcases (show i = 0 ∨ i = 1 by omega) with rfl | rfl
    · have hnx := fun ty => Lib.run_next_ascii_at (P := Tryz.prog) wo w1.heap.size abB 0 ty hit hi (show (97 : UInt8).toNat < 128 by decide)
      have hx : abB[0]'hi = 97 := rfl
      simp only [hx] at hnx
      have hR := fun W => blank_low 97 (by decide) (by decide) (by decide) W
      have HI := Lib.hid (And.intro (Lib.iterAt_heap wo w1.heap.size abB 0 1 hit) (Lib.below_iterAt hbw (Nat.le_refl _) abB 1))
      clear hit hbw
      go_wp2_with fail
      refine (hR _).mono ?_
      rintro e w2 ⟨rfl, hb2⟩
      have hk : w1.heap.size < (wo.iterAt w1.heap.size abB 1).heap.size := (Array.getElem?_eq_some_iff.1 HI.out.1).1
      have H2 := Lib.hid (And.intro ((hb2.block _ hk).trans HI.out.1) (HI.out.2.trans (hb2.mono (Nat.le_of_lt hk))))
      clear hR hb2 hnx
      go_wp2_with fail
      refine ⟨⟨1, by omega, H2.out⟩, ?_⟩
      have : w2.iterPos w1.heap.size = 1 := by simp [World.iterPos, H2.out.1]
      rw [this, hpos, hz]; omega
    · have hnx := fun ty => Lib.run_next_ascii_at (P := Tryz.prog) wo w1.heap.size abB 1 ty hit hi (show (32 : UInt8).toNat < 128 by decide)
      have hx : abB[1]'hi = 32 := rfl
      simp only [hx] at hnx
      have hR := fun W => blank_hit W
      have HI := Lib.hid (And.intro (Lib.iterAt_heap wo w1.heap.size abB 1 2 hit) (Lib.below_iterAt hbw (Nat.le_refl _) abB 2))
      clear hit hbw
      go_wp2_with fail
      refine (hR _).mono ?_
      rintro e w2 ⟨rfl, hb2⟩
      have hk : w1.heap.size < (wo.iterAt w1.heap.size abB 2).heap.size := (Array.getElem?_eq_some_iff.1 HI.out.1).1
      have H2 := Lib.hid (HI.out.2.trans (hb2.mono (Nat.le_of_lt hk)))
      clear hR hb2 hnx
      go_wp2_with fail
      go_ret
      exact ⟨rfl, H2.out⟩
theorem ContainsAny_ab (w : World) : Calls Tryz.prog 65 #[.string abB, .string ⟨#[32, 10]⟩] w fun e w' => e = .returned (.bool true) ∧ Below w.heap.size w w' := by
  have hI := IndexAny_ab w
  go_enter Tryz.func65, Tryz.ntmps65
  go_wp2_with fail
  refine hI.mono ?_
  rintro e w1 ⟨rfl, hb1⟩
  go_wp2_with fail
  go_ret
  exact ⟨rfl, hb1⟩
theorem isToken_nil (w : World) : Calls Tryz.prog 56 #[.string nilB] w fun e w' => e = .returned (.bool false) ∧ Below w.heap.size w w' := by
  have e10 : (nilB.toList == [10]) = false := by decide +kernel
  have e0 : nilB.toList.isEmpty = true := by decide +kernel
  have e0' : nilB.toList = [] := by decide +kernel
  go_enter Tryz.func56, Tryz.ntmps56
  go_wp2_with fail
  go_ret
  exact ⟨rfl, Below.refl _ _⟩
theorem isToken_ab (w : World) : Calls Tryz.prog 56 #[.string abB] w fun e w' => e = .returned (.bool false) ∧ Below w.heap.size w w' := by
  have hC := ContainsAny_ab w
  have e10 : (abB.toList == [10]) = false := by decide +kernel
  have e0' : abB.toList.isEmpty = false := by decide +kernel
  have e0 : (abB.toList == []) = false := by decide +kernel
  go_enter Tryz.func56, Tryz.ntmps56
  go_wp2_with fail
  refine hC.mono ?_
  rintro e w1 ⟨rfl, hb1⟩
  go_wp2_with fail
  go_ret
  exact ⟨rfl, hb1⟩
theorem isToken_odd (s : ByteArray) (hs : s.size ≤ 1000000000) (ho : Odd s) (hn : ¬ WM.IsTok s) (w : World) : Calls Tryz.prog 56 #[.string s] w fun e w' => e = .returned (.bool false) ∧ Below w.heap.size w w' := by
  rcases ho with h | rfl | rfl
  · exact absurd h hn
  · exact isToken_nil w
  · exact isToken_ab w
theorem areTokens_gen (l : List ByteArray) (hl : ∀ x, x ∈ l → Odd x ∧ x.size ≤ 1000000000) (base : Nat) (v : Value) (w : World) (h : OwnS w base v l) : Calls Tryz.prog 40 #[v] w fun e w' => e = .returned (.bool (WM.tokB l)) ∧ Below w.heap.size w w' := by
  obtain ⟨A, cap, rfl, hr⟩ := h.rd
  have hn := h.len_le
  have HL := Lib.hid (And.intro hl hr)
  clear h hl hr
  go_enter Tryz.func40, Tryz.ntmps40
  go_wp2_with fail
  go_loopw [7] (fun i wr => ∃ k : Nat, k ≤ l.length ∧ i = .int .i64 k ∧ (∀ x, x ∈ l.take k → WM.IsTok x) ∧ Below w.heap.size w wr) (fun i _ => l.length - (intOf i).toNat)
  case atStart => exact ⟨0, Nat.zero_le _, rfl, fun x hx => by simp at hx, Below.refl _ _⟩
  case round =>
    obtain ⟨k, hk, rfl, hall, hbw⟩ := hrel
    by_cases hlt : k < l.length
    · obtain ⟨g, rfl, hg, hc⟩ := HL.out.2 (by omega)
      have hx := List.getElem?_eq_getElem hlt
      generalize l[k] = x at hx
      have d1 := (hbw.cell (p := ⟨g, k, none⟩) hg).trans (hc k x hx)
      have hmem := List.mem_of_getElem? hx
      obtain ⟨ho, hs⟩ := HL.out.1 x hmem
      have HW := Lib.hid hbw
      by_cases ht : WM.IsTok x
      · have hT := fun W => isToken_any x hs ht W
        have HA := Lib.hid (show ∀ y, y ∈ l.take (k + 1) → WM.IsTok y from fun y hy => by
          rw [List.take_add_one, List.mem_append] at hy
          rcases hy with hy | hy
          · exact hall y hy
          · rw [hx] at hy; simp at hy; subst hy; exact ht)
        clear hx hc hbw hall ht ho hmem
        go_wp2_with fail
        refine (hT _).mono ?_
        rintro e w1 ⟨rfl, hb1⟩
        have H1 := Lib.hid (HW.out.trans (hb1.mono HW.out.size))
        clear hb1 hT d1
        go_wp2_with fail
        exact ⟨⟨k + 1, by omega, by simp, HA.out, H1.out⟩, by simp [intOf]; omega⟩
      · have hT := fun W => isToken_odd x hs ho ht W
        have HF := Lib.hid (show WM.tokB l = false by
          cases hq : WM.tokB l
          · rfl
          · exact absurd ((WM.tokB_iff l).1 hq x hmem) ht)
        clear hx hc hbw hall ht ho hmem
        go_wp2_with fail
        refine (hT _).mono ?_
        rintro e w1 ⟨rfl, hb1⟩
        have H1 := Lib.hid (HW.out.trans (hb1.mono HW.out.size))
        clear hb1 hT d1
        go_wp2_with fail
        go_ret
        exact ⟨by rw [HF.out]; rfl, H1.out⟩
    · have HW := Lib.hid hbw
      have HT := Lib.hid (show WM.tokB l = true from (WM.tokB_iff l).2 (by rwa [List.take_of_length_le (by omega)] at hall))
      clear hbw hall
      go_wp2_with fail
      go_ret
      exact ⟨by rw [HT.out]; rfl, HW.out⟩
theorem EqualR_gen (l1 l2 : List ByteArray) (n : Nat) (hn1 : l1.length = n) (hn2 : l2.length = n) (b : Bool) (hb : b = true ↔ l1 = l2) (A1 A2 : Option Addr) (c1 c2 : Nat) (w : World) (h1 : RdO w A1 l1) (h2 : RdO w A2 l2) (hl : n ≤ 1000000000) : Calls Tryz.prog 27 #[.slice A1 n c1, .slice A2 n c2] w (SaysBo b w) := by
  rcases Nat.eq_zero_or_pos n with e | p
  · have h := Any.slices_Equal_string_empty Tryz.lays193 A1 A2 c1 n c2 w (by omega)
    rw [e] at h ⊢
    refine h.mono ?_
    rintro e1 w' ⟨rfl, rfl⟩
    refine saysb_of0 ?_
    rw [hb.2 (by rw [List.eq_nil_of_length_eq_zero (hn1.trans e), List.eq_nil_of_length_eq_zero (hn2.trans e)])]
    rfl
  · obtain ⟨g1, o1, rfl, _, hc1⟩ := h1 (by omega)
    obtain ⟨g2, o2, rfl, _, hc2⟩ := h2 (by omega)
    have hget : ∀ (l : List ByteArray) j, j < l.length → l[j]? = some (l.getD j ByteArray.empty) := fun l j hj => by
      rw [List.getD_eq_getElem?_getD, List.getElem?_eq_getElem hj]; rfl
    refine (Any.slices_Equal_string Tryz.lays193 g1 o1 n c1 g2 o2 n c2 l1 l2 w (by omega) (by omega) (by omega) (by omega) (fun j hj => hc1 j _ (hget l1 j hj)) (fun j hj => hc2 j _ (hget l2 j hj))).mono ?_
    rintro e w' ⟨rfl, q, rfl⟩
    refine saysb_of ?_
    rw [List.take_of_length_le (by omega), List.take_of_length_le (by omega)]
    cases b
    · exact decide_eq_false (fun h => by simpa using hb.2 h)
    · exact decide_eq_true (hb.1 rfl)
theorem beginsWith_gen (Z l : List ByteArray) (n : Nat) (hn : Z.length = n) (_ : n ≤ 1000000000) (A1 A2 : Option Addr) (c1 c2 : Nat) (hc1 : n ≤ c1) (w : World) (h1 : RdO w A1 Z) (h2 : RdO w A2 l) (hll : l.length ≤ 1000000000) : Calls Tryz.prog 41 #[.slice A1 n c1, .slice A2 l.length c2] w (SaysBo (WM.fitB Z l) w) := by
  by_cases hl : l.length ≤ n
  · have hE := EqualR_gen (Z.take l.length) l l.length (by rw [List.length_take]; omega) rfl (WM.fitB Z l) (WM.fitB_iff Z l) A1 A2 l.length c2 w (h1.take _) h2 (by omega)
    have hE' : ∀ c, Calls Tryz.prog 27 #[.slice A1 l.length c, .slice A2 l.length c2] w (SaysBo (WM.fitB Z l) w) := fun c => EqualR_gen (Z.take l.length) l l.length (by rw [List.length_take]; omega) rfl (WM.fitB Z l) (WM.fitB_iff Z l) A1 A2 c c2 w (h1.take _) h2 (by omega)
    clear h1 h2 hn hE
    generalize WM.fitB Z l = b at *
    go_enter Tryz.func41, Tryz.ntmps41
    go_wp2_with fail
    refine (hE' _).mono ?_
    rintro e w1 ⟨rfl, n1, rfl⟩
    go_wp2_with fail
    go_ret
    exact saysb_of rfl
  · have hF : WM.fitB Z l = false := by
      cases hq : WM.fitB Z l
      · rfl
      · have := congrArg List.length ((WM.fitB_iff Z l).1 hq)
        rw [List.length_take] at this
        omega
    have HF := Lib.hid hF
    clear h1 h2 hn hF
    go_enter Tryz.func41, Tryz.ntmps41
    go_wp2_with fail
    go_ret
    exact saysb_of0 HF.out.symm
end Go.Proofs.YtndeifdpiimbeaaGreatDoor
