/- Contracts of the reference's starts and coveredOf; of slices.Contains at a part of a row of yes and no. -/
import Derived.Test.YtdmgfkgfcofmhaaDoorCvBad
import Derived.Test.YtdmgfkgfcofmhaaDoorPaint
import Derived.Test.YtdmgfkgfcofmhaaDoorTcM
import Derived.Test.YtdmgfkgfcofmhaaDoorLays
import Derived.Shelf.Unicode.DecodeAny
namespace PT
/-- one step over a code point -/
theorem cp_step {s : ByteArray} {i : Nat} (hv : Go.Lib.validD (s.data.toList.drop i) = true) (hi : i < s.size) : ∃ n : Nat, 0 < n ∧ i + n ≤ s.size ∧ cont (s.data.toList.getD i 0) = false ∧ (∀ j, i < j → j < i + n → cont (s.data.toList.getD j 0) = true) ∧ Go.Lib.validD (s.data.toList.drop (i + n)) = true ∧ (Go.Lib.decodeGo (s.extract i s.size)).2 = n := by
  have hl : s.data.toList.length = s.size := by simp
  have hne : s.data.toList.drop i ≠ [] := fun h => by have := congrArg List.length h; rw [List.length_drop] at this; simp at this; omega
  obtain ⟨c, r, h1, h2, h3, h4, h5, h6⟩ := chunkD hv hne
  have hlen : c.length + r.length = s.size - i := by have := congrArg List.length h1; rw [List.length_drop, List.length_append] at this; omega
  have hg : ∀ j, j < c.length → s.data.toList.getD (i + j) 0 = c.getD j 0 := fun j hj => by
    have : (s.data.toList.drop i).getD j 0 = c.getD j 0 := by rw [h1, List.getD_eq_getElem?_getD, List.getElem?_append_left hj, ← List.getD_eq_getElem?_getD]
    rw [← this, List.getD_eq_getElem?_getD, List.getD_eq_getElem?_getD, List.getElem?_drop]
  refine ⟨c.length, h2, by omega, by have := hg 0 h2; rw [Nat.add_zero] at this; rw [this]; exact h3, fun j j1 j2 => ?_, ?_, ?_⟩
  · have := hg (j - i) (by omega)
    rw [show i + (j - i) = j by omega] at this
    rw [this]
    exact h4 (j - i) (by omega) (by omega)
  · rw [← List.drop_drop, h1, List.drop_left]
    exact h5
  · have he : (s.extract i s.size).data.toList = s.data.toList.drop i := by
      rw [WM.extract_list, List.take_of_length_le (by omega)]
    have hs2 : (s.extract i s.size).size = s.size - i := by rw [ByteArray.size_extract]; omega
    unfold Go.Lib.decodeGo
    rw [if_neg (by omega), Go.Lib.decode_at]
    have hget : ∀ j, (s.extract i s.size).get! j = (s.data.toList.drop i).getD j 0 := fun j => by
      by_cases hj : j < (s.extract i s.size).size
      · rw [← WM.list_get _ j hj, he]
      · rw [List.getD_eq_getElem?_getD, List.getElem?_eq_none (by rw [List.length_drop]; omega)]
        show (s.extract i s.size).data[j]! = _
        rw [getElem!_neg _ _ (by show ¬ j < (s.extract i s.size).size; exact hj)]
        rfl
    rw [hget, hget, hget, hget, Nat.sub_zero, hs2]
    have : (s.data.toList.drop i).length = s.size - i := by rw [List.length_drop, hl]
    rw [← this]
    exact h6
theorem cp_dn {l : List UInt8} {i n : Nat} (h0 : cont (l.getD i 0) = false) (h : ∀ j, i < j → j < i + n → cont (l.getD j 0) = true) {j : Nat} (h1 : i ≤ j) (h2 : j < i + n) : dn l j = i := by
  have := dn_same l (j - i) i fun k k1 k2 => h k k1 (by omega)
  rw [show i + (j - i) = j by omega, dn_stop h0] at this
  exact this
theorem cp_cov {l : List UInt8} {C : Int → Prop} {i n : Nat} (hn : 0 < n) (hi : i + n ≤ l.length) (h0 : cont (l.getD i 0) = false) (h : ∀ j, i < j → j < i + n → cont (l.getD j 0) = true) (hend : i + n = l.length ∨ cont (l.getD (i + n) 0) = false) {j : Nat} (h1 : i ≤ j) (h2 : j < i + n) : covd l C j ↔ ∃ k : Nat, k < n ∧ C ((i + k : Nat) : Int) := by
  have hj := cp_dn h0 h h1 h2
  constructor
  · rintro ⟨k, c, hk, e⟩
    rw [hj] at e
    have a := dn_le l k
    have b : k < i + n := by
      rcases Nat.lt_or_ge k (i + n) with h3 | h3
      · exact h3
      · rcases hend with h4 | h4
        · omega
        · have := dn_mono (l := l) h3
          rw [dn_stop h4] at this
          omega
    exact ⟨k - i, by omega, by rw [show i + (k - i) = k by omega]; exact c⟩
  · rintro ⟨k, hk, c⟩
    exact ⟨i + k, c, by omega, by rw [cp_dn h0 h (by omega) (by omega), hj]⟩
end PT
namespace Go.Proofs.YtdmgfkgfcofmhaaDoor
open Go.RowKit

theorem Bits.congr {w : World} {g n : Nat} {p q : Nat → Bool} (h : Bits w g n p) (e : ∀ j, j < n → p j = q j) : Bits w g n q := World.rowIs.congr h fun j hj => by rw [e j hj]
theorem and_cont : ∀ c : UInt8, (bits BinOp.and IntKind.u8 (c.toNat : Int) 192 != 128) = !(PT.cont c) := by apply WM.all_u8; decide +kernel
theorem starts_any {s : ByteArray} (i : Nat) (hi : i ≤ s.size) (b : Bool) (hb : PT.cont (s.data.toList.getD i 0) = !b) (w : World) : Calls Tryd.prog 42 #[.string s, .int .i64 i] w fun e w' => e = .returned (.bool b) ∧ w = w' := by
  by_cases h : i < s.size
  · have g1 := PT.get_D h
    have hc := and_cont (s[i]'h)
    rw [g1, hb, Bool.not_not, ← g1] at hc
    have i1 : ((i : Int) == (s.size : Int)) = false := by rw [beq_eq_false_iff_ne]; omega
    have i2 : (i : Int) < (s.size : Int) := by omega
    have HC := Lib.hid hc
    clear hb g1 hc
    go_enter Tryd.func42, Tryd.ntmps42
    go_wp2_with fail
    go_ret
    exact ⟨by rw [← HC.out]; rfl, rfl⟩
  · obtain rfl : i = s.size := by omega
    obtain rfl : b = true := by rw [PT.cont_out (by simp)] at hb; cases b; cases hb; rfl
    have i1 : ((s.size : Int) == (s.size : Int)) = true := by simp
    clear hb
    go_enter Tryd.func42, Tryd.ntmps42
    go_wp2_with fail
    go_ret
    exact ⟨rfl, rfl⟩
/-- the least number at which p is b, of n ones from off on; -1: there is none -/
theorem IndexB_any {w : World} {g N : Nat} {p : Nat → Bool} (h : Bits w g N p) (off n cap : Nat) (hn : off + n ≤ N) (hN : N ≤ 1000000) :
    Calls Tryd.prog 65 #[.slice (some ⟨g, off, none⟩) n cap, .bool true] w fun e w' => (∃ z : Int, e = .returned (.int .i64 z) ∧ ((∃ k : Nat, k < n ∧ p (off + k) = true) ↔ 0 ≤ z)) ∧ w = w' := by
  have H := Lib.hid h
  clear h
  go_enter Tryd.func65, Tryd.ntmps65
  go_wp2_with fail
  go_loop [8] (fun i => ∃ k : Nat, k ≤ n ∧ i = .int .i64 k ∧ ∀ q, q < k → p (off + q) = false) (fun i => n - (intOf i).toNat)
  case atStart => exact ⟨0, Nat.zero_le _, rfl, fun q hq => absurd hq (Nat.not_lt_zero _)⟩
  case round =>
    obtain ⟨k, hk, rfl, hq⟩ := hrel
    by_cases hlt : k < n
    · have d1 := H.out.cell (j := off + k) (by omega)
      have HQ := Lib.hid hq
      clear hq
      cases hp : p (off + k)
      · rw [hp] at d1
        have HP := Lib.hid hp
        clear hp
        go_wp2_with fail
        refine ⟨⟨k + 1, by omega, by simp, fun q hq => ?_⟩, by simp [intOf]; omega⟩
        by_cases eq : q = k
        · rw [eq]; exact HP.out
        · exact HQ.out q (by omega)
      · rw [hp] at d1
        have HP := Lib.hid hp
        clear hp
        go_wp2_with fail
        go_ret
        exact ⟨⟨k, rfl, ⟨fun _ => by omega, fun _ => ⟨k, hlt, HP.out⟩⟩⟩, rfl⟩
    · have HQ := Lib.hid hq
      clear hq
      go_wp2_with fail
      go_ret
      exact ⟨⟨-1, rfl, ⟨(fun ⟨q, h1, h2⟩ => by rw [HQ.out q (by omega)] at h2; cases h2), fun h => by omega⟩⟩, rfl⟩
theorem ContainsB_any {w : World} {g N : Nat} {p : Nat → Bool} (h : Bits w g N p) (off n cap : Nat) (hn : off + n ≤ N) (hN : N ≤ 1000000) (b : Bool) (hb : (∃ k : Nat, k < n ∧ p (off + k) = true) ↔ b = true) :
    Calls Tryd.prog 38 #[.slice (some ⟨g, off, none⟩) n cap, .bool true] w fun e w' => e = .returned (.bool b) ∧ w = w' := by
  have hI := IndexB_any h off n cap hn hN
  clear h
  go_enter Tryd.func38, Tryd.ntmps38
  go_wp2_with fail
  refine hI.mono ?_
  rintro e w1 ⟨⟨z, rfl, hz⟩, rfl⟩
  clear hI
  rw [hb] at hz
  cases b
  · have i1 : decide (0 ≤ z) = false := decide_eq_false fun h => by have := hz.2 h; cases this
    clear hz hb
    go_wp2_with fail
    go_ret
    exact ⟨rfl, rfl⟩
  · have i1 : decide (0 ≤ z) = true := decide_eq_true (hz.1 rfl)
    clear hz hb
    go_wp2_with fail
    go_ret
    exact ⟨rfl, rfl⟩
/-- how far coveredOf is: the first i bytes are told, of the code point at i the first k -/
noncomputable def covF (l : List UInt8) (C : Int → Prop) (i k : Nat) (on : Bool) (j : Nat) : Bool := if j < i then PT.covB l C j else if j < i + k then on else false
def CoRel (w : World) (s : ByteArray) (C : Int → Prop) (g1 g2 : Nat) (p : Nat → Bool) (i : Value) (wr : World) : Prop := ∃ k : Nat, i = .int .i64 k ∧ k ≤ s.size ∧ Hid (Go.Lib.validD (s.data.toList.drop k) = true) ∧ Hid (Bits wr g1 s.size p) ∧ Hid (Bits wr g2 s.size (covF s.data.toList C k 0 false)) ∧ Below w.heap.size w wr
def CoIn (w : World) (s : ByteArray) (C : Int → Prop) (g1 g2 i : Nat) (on : Bool) (p : Nat → Bool) (n : Nat) (t : Value) (wr : World) : Prop := ∃ k : Nat, t = .int .i64 k ∧ k ≤ n ∧ Hid (Bits wr g1 s.size p) ∧ Hid (Bits wr g2 s.size (covF s.data.toList C i k on)) ∧ Below w.heap.size w wr
/-- a row of yes and no that tells what is covered -/
def CovSays (s : ByteArray) (C : Int → Prop) (w : World) (e : Ending) (w' : World) : Prop := ∃ g : Nat, e = .returned (.slice (some ⟨g, 0, none⟩) s.size s.size) ∧ w.heap.size ≤ g ∧ Bits w' g s.size (PT.covB s.data.toList C) ∧ Below w.heap.size w w'
set_option maxHeartbeats 8000000 in
set_option maxRecDepth 100000 in
theorem coveredOf_any {w : World} {b0 : Nat} {v : Value} {L : List (Int × Int)} (h : OwnI w b0 v L) (s : ByteArray) (hs : s.size ≤ 1000000) (hv : Go.Lib.validD s.data.toList = true) (hL : ∀ x, x ∈ L → 0 ≤ x.1 ∧ x.1 < x.2 ∧ x.2 ≤ s.size) (hT : LibV w) :
    Calls Tryd.prog 35 #[.string s, v] w (CovSays s (WM.cov L) w) := by
  have hPa := painted_any h s.size hs hL
  have hl : s.data.toList.length = s.size := by simp
  have hmk := run_make_row' (P := Tryd.prog) 65 4 (.bool false) 1 Tryd.underlying65 info_bool rfl .i64 .i64 s.size (by omega) (by omega)
  obtain ⟨C, hCe⟩ : ∃ C, WM.cov L = C := ⟨_, rfl⟩
  rw [hCe]
  have HCE := Lib.hid hCe
  have HT := Lib.hid hT
  have htop := hT.2
  have HVD := Lib.hid hv
  clear h hL hT hv hCe
  go_enter Tryd.func35, Tryd.ntmps35
  go_wp2_with fail
  refine hPa.mono ?_
  rintro e w1 ⟨rfl, hb1, hg1, p, hp1, hp2⟩
  have HP := Lib.hid hp1
  have HPC : Hid (∀ j : Nat, j < s.size → (p j = true ↔ C j)) := Lib.hid fun j hj => by rw [hp2 j hj, HCE.out]
  have HB1 := Lib.hid hb1
  have hsz1 := hb1.size
  have HQ : Hid (Bits (w1.alloc (.cells (madeCells #[.bool false] s.size) 4)) w1.heap.size s.size (covF s.data.toList C 0 0 false)) := Lib.hid ((show Bits (w1.alloc (.cells (madeCells #[.bool false] s.size) 4)) w1.heap.size s.size (fun _ => false) from World.rowIs_made w1 _ s.size _).congr fun j _ => by unfold covF; rw [if_neg (by omega), if_neg (by omega)])
  have HP2 := Lib.hid (HP.out.alloc (.cells (madeCells #[.bool false] s.size) 4))
  have HB2 := Lib.hid (hb1.alloc hsz1 (.cells (madeCells #[.bool false] s.size) 4))
  clear hPa hb1 hp1 hp2
  go_wp2_with fail
  go_loopw [7] (fun i wr => CoRel w s C w.heap.size w1.heap.size p i wr) (fun i _ => s.size - (intOf i).toNat)
  case atStart => exact ⟨0, rfl, Nat.zero_le _, HVD, HP2, HQ, HB2.out⟩
  case round =>
    obtain ⟨k, rfl, hk, HV, HA, HO, hbw⟩ := hrel
    have HB := Lib.hid hbw
    clear hmk
    by_cases hlt : k < s.size
    · obtain ⟨n, hn0, hn1, hc0, hcs, hvn, hdn⟩ := PT.cp_step HV.out hlt
      have hend : k + n = s.data.toList.length ∨ PT.cont (s.data.toList.getD (k + n) 0) = false := by
        by_cases e : k + n = s.size
        · exact .inl (by omega)
        · right
          have hne : (s.data.toList.drop (k + n)).getD 0 0 = s.data.toList.getD (k + n) 0 := by
            rw [List.getD_eq_getElem?_getD, List.getD_eq_getElem?_getD, List.getElem?_drop, Nat.add_zero]
          rw [← hne]
          exact (PT.lead_high _ _ (Nat.le_refl _) hvn).2
      have hcov := fun j (h1 : k ≤ j) (h2 : j < k + n) => PT.cp_cov (C := C) hn0 (by omega) hc0 hcs hend h1 h2
      have hD := fun W hT => Any.utf8_DecodeRuneInString Tryd.lays197 (s.extract k s.size) W hT
      rw [hdn] at hD
      generalize (Lib.decodeGo (s.extract k s.size)).1 = r at hD
      have hD1 := hD wr (HT.out.below hbw htop).1
      have i1 : (k : Int) ≤ (s.size : Int) := by omega
      have hW1 : IntKind.i64.wrap ((k : Int) + (n : Int)) = ((k + n : Nat) : Int) := by rw [show ((k + n : Nat) : Int) = (k : Int) + (n : Int) by omega]; exact IntWalk.i64_in _ ⟨by omega, by omega⟩
      have HVN := Lib.hid hvn
      have HCV := Lib.hid hcov
      clear hbw hcs hend hcov hD hvn hdn hc0
      have hon : (∃ j : Nat, j < n ∧ p (k + j) = true) ↔ PT.covB s.data.toList C k = true := by
        rw [PT.covB_iff, HCV.out k (Nat.le_refl _) (by omega)]
        constructor
        · rintro ⟨j, h1, h2⟩; exact ⟨j, h1, (HPC.out (k + j) (by omega)).1 h2⟩
        · rintro ⟨j, h1, h2⟩; exact ⟨j, h1, (HPC.out (k + j) (by omega)).2 h2⟩
      have hall : ∀ j, k ≤ j → j < k + n → PT.covB s.data.toList C j = PT.covB s.data.toList C k := fun j h1 h2 => by
        rw [Bool.eq_iff_iff, PT.covB_iff, PT.covB_iff, HCV.out j h1 h2, HCV.out k (Nat.le_refl _) (by omega)]
      generalize PT.covB s.data.toList C k = on at hon hall
      have HALL := Lib.hid hall
      have HON := Lib.hid hon
      have i2 : (k : Int) ≤ ((k + n : Nat) : Int) := by omega
      have i3 : ((k + n : Nat) : Int) ≤ (s.size : Int) := by omega
      have i4 : ¬ s.size = k := by omega
      have e1 : k + n - k = n := by omega
      have hg1w : w.heap.size < wr.heap.size := Nat.lt_of_lt_of_le hg1 (HO.out.lt |> Nat.le_of_lt)
      have hg2w := HO.out.lt
      clear hon hall hl
      go_wp2_with fail
      refine hD1.mono ?_
      rintro e w3 ⟨rfl, hb3⟩
      have HA3 := Lib.hid (HA.out.below hb3 hg1w)
      have HO3 := Lib.hid (HO.out.below hb3 hg2w)
      have HB3 := Lib.hid (HB.out.trans (hb3.mono HB.out.size))
      have hCB := ContainsB_any HA3.out k n (s.size - k) hn1 hs on HON.out
      clear hD1 hb3
      go_wp2_with fail
      refine hCB.mono ?_
      rintro e w4 ⟨rfl, rfl⟩
      clear hCB
      go_wp2_with fail
      go_loopw [38] (fun t wr2 => CoIn w s C w.heap.size w1.heap.size k on p n t wr2) (fun t _ => n - (intOf t).toNat)
      case atStart => exact ⟨0, rfl, Nat.zero_le _, HA3, Lib.hid (HO3.out.congr fun j _ => by
        unfold covF
        by_cases h1 : j < k
        · rw [if_pos h1, if_pos h1]
        · rw [if_neg h1, if_neg h1, if_neg (by omega), if_neg (by omega)]), HB3.out⟩
      case round =>
        obtain ⟨m, rfl, hm, HA5, HO5, hb5⟩ := hrel
        have HB5 := Lib.hid hb5
        by_cases hml : m < n
        · have hc := HO5.out.cell (j := k + m) (by omega)
          have hf := HO5.out.frozen (k + m)
          have hW2 : IntKind.i64.wrap ((k : Int) + (m : Int)) = ((k + m : Nat) : Int) := by rw [show ((k + m : Nat) : Int) = (k : Int) + (m : Int) by omega]; exact IntWalk.i64_in _ ⟨by omega, by omega⟩
          have i5 : ((k + m : Nat) : Int) < (s.size : Int) := by omega
          have HS : Hid (Bits (wr.setCell ⟨w1.heap.size, k + m, none⟩ (.bool on)) w1.heap.size s.size (covF s.data.toList C k (m + 1) on)) := Lib.hid ((HO5.out.set (k + m) on).congr fun j _ => by
            unfold covF
            by_cases h1 : j = k + m
            · rw [if_pos h1, if_neg (by omega), if_pos (by omega)]
            · rw [if_neg h1]
              by_cases h2 : j < k
              · rw [if_pos h2, if_pos h2]
              · rw [if_neg h2, if_neg h2]
                by_cases h3 : j < k + m
                · rw [if_pos h3, if_pos (by omega)]
                · rw [if_neg h3, if_neg (by omega)])
          have HS1 := Lib.hid (HA5.out.other (a := ⟨w1.heap.size, k + m, none⟩) (by show w.heap.size ≠ w1.heap.size; omega) (.bool on))
          have HS2 := Lib.hid (below_setI hb5 (p := ⟨w1.heap.size, k + m, none⟩) (by show w.heap.size ≤ w1.heap.size; omega) (.bool on))
          clear hb5
          go_wp2_with fail
          exact ⟨⟨m + 1, by simp, by omega, HS1, HS, HS2.out⟩, by simp [intOf]; omega⟩
        · obtain rfl : m = n := by omega
          have HOF : Hid (Bits wr w1.heap.size s.size (covF s.data.toList C (k + m) 0 false)) := Lib.hid (HO5.out.congr fun j _ => by
            unfold covF
            by_cases h1 : j < k
            · rw [if_pos h1, if_pos (by omega)]
            · rw [if_neg h1]
              by_cases h2 : j < k + m
              · rw [if_pos h2, if_pos h2, HALL.out j (by omega) h2]
              · rw [if_neg h2, if_neg h2, if_neg (by omega)])
          clear hb5
          go_wp2_with fail
          exact ⟨⟨k + m, by simp, hn1, HVN, HA5, HOF, HB5.out⟩, by simp [intOf]; omega⟩
    · obtain rfl : k = s.size := by omega
      have HOF : Hid (Bits wr w1.heap.size s.size (PT.covB s.data.toList C)) := Lib.hid (HO.out.congr fun j hj => by unfold covF; rw [if_pos hj])
      clear hbw
      go_wp2_with fail
      go_ret
      exact ⟨_, rfl, Nat.le_of_lt hg1, HOF.out, HB.out⟩
end Go.Proofs.YtdmgfkgfcofmhaaDoor
