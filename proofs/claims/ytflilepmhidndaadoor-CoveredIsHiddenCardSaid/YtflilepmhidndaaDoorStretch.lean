/- Contracts of slices.Clone at spans, utf8.RuneStart, pointsWhole and stretched. -/
import Derived.Test.YtflilepmhidndaaDoorPrivB
import Derived.Test.YtflilepmhidndaaDoorPtM
import Derived.Test.YtflilepmhidndaaDoorBody
import Derived.Shelf.Abstract
import Derived.Lib.SliceRun
namespace PT
theorem all_u8 (p : UInt8 → Prop) (h : ∀ n : Fin 256, p (UInt8.ofNat n.val)) : ∀ c, p c := fun c => by
  have := h ⟨c.toNat, c.toNat_lt⟩
  simpa using this
theorem rs_bits : ∀ c : UInt8, (Go.bits Go.BinOp.and Go.IntKind.u8 (c.toNat : Int) 192 == 128) = cont c := by
  apply all_u8; decide +kernel
/-- a span made longer to whole code points -/
def st (l : List UInt8) (s : Int × Int) : Int × Int := ((dn l s.1.toNat : Nat), (up l s.2.toNat : Nat))
end PT
namespace Go.Proofs.YtflilepmhidndaaDoor
open Go.RowKit

set_option maxHeartbeats 1000000 in
/-- slices.Clone of a row of spans -/
theorem CloneI_all {w : World} {b : Nat} {v : Value} {L : List (Int × Int)} (h : OwnI w b v L) (hl : L.length ≤ 1000000) : Calls Tryd.prog 54 #[v] w (RowOwnI L w) := by
  have q22 : ∀ (w : World) (a : Option Addr) (n c n' c' : Nat), (binOp .eql 30 (.slice a n c) (.slice none n' c')).run Tryd.prog w = .ok (.bool a.isNone) w := fun w a n c n' c' => Lib.run_eql_slice_nil w _ _ a n c n' c' Tryd.underlying30
  have H := Lib.hid h
  rcases h.2 with ⟨rfl, h2⟩ | ⟨g, cap, cur, rfl, hg, hh, hn, hc, hsz, ht⟩
  · obtain rfl : L = [] := List.eq_nil_of_length_eq_zero h2
    clear h
    go_enter Tryd.func54, Tryd.ntmps54
    go_wp2_with fail
    go_ret
    exact ⟨.slice none 0 0, rfl, OwnI.nil _ _, Below.refl _ _⟩
  · have hE : OwnI (w.alloc (.cells #[] 38)) w.heap.size (.slice (some ⟨w.heap.size, 0, none⟩) 0 0) [] := World.ownsRow_made w _ _ (Nat.le_refl _) (by unfold maxLen; omega) (by simp)
    have HE := Lib.hid hE
    clear h hE hg hh hn hc hsz ht
    go_enter Tryd.func54, Tryd.ntmps54
    go_wp2_with (at_builtin; refine app_spsC _ rfl (.tmp 5) (.tmp 6) rfl w.heap.size _ [] rfl HE.out _ _ L rfl (H.out.alloc _) ?_ ?d1 ?d2; intro v4 w4 ho4 hg4 _; have HO4 := Lib.hid (And.intro ho4 hg4); clear ho4 hg4)
    case d1 => simp; omega
    case d2 => simp
    go_ret
    exact ⟨v4, rfl, by simpa using HO4.out.1, below_grownC ((Below.refl w.heap.size w).alloc (Nat.le_refl _) _) HO4.out.2 (by simp) (fun k hk => HE.out.base_le k hk)⟩
theorem runeStart_any (c : UInt8) (b : Bool) (hb : PT.cont c = b) (w : World) : Calls Tryd.prog 42 #[.int .u8 c.toNat] w fun e w' => e = .returned (.bool (!b)) ∧ w = w' := by
  have hq := PT.rs_bits c
  rw [hb] at hq
  obtain ⟨z, hz⟩ : ∃ z, bits BinOp.and IntKind.u8 (c.toNat : Int) 192 = z := ⟨_, rfl⟩
  rw [hz] at hq
  have hn : (z != 128) = !b := by rw [bne, hq]
  clear hb
  cases b
  all_goals
    go_enter Tryd.func42, Tryd.ntmps42
    go_wp2_with fail
    go_ret
    exact ⟨by first | rfl | (simp [hn]) | (rw [hn]), rfl⟩
set_option maxHeartbeats 1000000 in
/-- whether a code point goes on at a byte -/
theorem divides_any {s : ByteArray} (at_ : Nat) (hat : at_ ≤ s.size) (b : Bool) (hb : PT.cont (s.data.toList.getD at_ 0) = b) (w : World) (bx : Nat) (h : w.cell? ⟨bx, 0, none⟩ = some (.string s)) : Calls Tryd.prog 41 #[.int .i64 at_, .pointer (some ⟨bx, 0, none⟩)] w fun e w' => e = .returned (.bool b) ∧ w = w' := by
  by_cases hlt : at_ < s.size
  · have hg : s.data.toList.getD at_ 0 = s[at_] := by
      rw [List.getD_eq_getElem?_getD, List.getElem?_eq_getElem (by simpa using hlt)]
      simp [ByteArray.getElem_eq_getElem_data]
    rw [hg] at hb
    have hR := fun W => runeStart_any s[at_] b hb W
    clear hg hb
    go_enter Tryd.func41, Tryd.ntmps41
    go_wp2_with fail
    refine (hR _).mono ?_
    rintro e w' ⟨rfl, rfl⟩
    clear hR
    cases b
    all_goals
      go_wp2_with fail
      go_ret
      exact ⟨rfl, rfl⟩
  · obtain rfl : b = false := by rw [← hb]; exact PT.cont_out (by simp; omega)
    have hd : decide ((at_ : Int) < (s.size : Int)) = false := decide_eq_false (by omega)
    clear hb
    go_enter Tryd.func41, Tryd.ntmps41
    go_wp2_with fail
    go_ret
    exact ⟨rfl, rfl⟩
/-- what a cell holds, as a number -/
def cellN (w : World) (g i : Nat) : Nat := (intOf ((w.cell? ⟨g, i, none⟩).getD undef)).toNat
def StRel (w : World) (l : List UInt8) (v1 : Value) (L : List (Int × Int)) (i : Value) (wr : World) : Prop := ∃ k : Nat, i = .int .i64 k ∧ k ≤ L.length ∧ Hid (OwnI wr w.heap.size v1 ((L.take k).map (PT.st l) ++ L.drop k)) ∧ Below w.heap.size w wr
def StA (w : World) (l : List UInt8) (v1 : Value) (H R : List (Int × Int)) (p q : Nat) (wr : World) : Prop := ∃ x : Nat, x ≤ p ∧ PT.dn l x = PT.dn l p ∧ Hid (OwnI wr w.heap.size v1 (H ++ ((x : Int), (q : Int)) :: R)) ∧ Below w.heap.size w wr
def StB (w : World) (l : List UInt8) (v1 : Value) (H R : List (Int × Int)) (x q : Nat) (wr : World) : Prop := ∃ y : Nat, y ≤ l.length ∧ PT.up l y = PT.up l q ∧ Hid (OwnI wr w.heap.size v1 (H ++ ((x : Int), (y : Int)) :: R)) ∧ Below w.heap.size w wr
theorem OwnI.midAt {w : World} {base g n cap : Nat} {H R : List (Int × Int)} {p q : Int} (h : OwnI w base (.slice (some ⟨g, 0, none⟩) n cap) (H ++ (p, q) :: R)) : base ≤ g ∧ g < w.heap.size ∧ w.cell? ⟨g, H.length * 2, none⟩ = some (.int .i64 p) ∧ w.cell? ⟨g, H.length * 2 + 1, none⟩ = some (.int .i64 q) ∧ w.frozen? ⟨g, H.length * 2, none⟩ = false ∧ w.frozen? ⟨g, H.length * 2 + 1, none⟩ = false := by
  obtain ⟨A, c, e, hl, hf⟩ := h.form
  obtain ⟨g', rfl, h1, h2, h3, h4⟩ := hf (by simp; omega)
  injection e with e1 e2 e3
  injection e1 with e1
  injection e1 with e1
  subst e1
  obtain ⟨c1, c2⟩ := h4 H.length (p, q) (by simp)
  exact ⟨h1, h2, c1, c2, h3 _, h3 _⟩
theorem OwnI.mid1 {w : World} {base g n cap : Nat} {H R : List (Int × Int)} {p q : Int} (h : OwnI w base (.slice (some ⟨g, 0, none⟩) n cap) (H ++ (p, q) :: R)) (z : Int) : OwnI (w.setCell ⟨g, H.length * 2, none⟩ (.int .i64 z)) base (.slice (some ⟨g, 0, none⟩) n cap) (H ++ (z, q) :: R) := by
  have := OwnI.set0 h (i := H.length) (p := p) (q := q) (by simp) z
  simpa using this
theorem OwnI.mid2 {w : World} {base g n cap : Nat} {H R : List (Int × Int)} {p q : Int} (h : OwnI w base (.slice (some ⟨g, 0, none⟩) n cap) (H ++ (p, q) :: R)) (z : Int) : OwnI (w.setCell ⟨g, H.length * 2 + 1, none⟩ (.int .i64 z)) base (.slice (some ⟨g, 0, none⟩) n cap) (H ++ (p, z) :: R) := by
  have := OwnI.set h (i := H.length) (p := p) (q := q) (by simp) z
  simpa using this
theorem cellN_of {w : World} {g i : Nat} {x : Nat} (h : w.cell? ⟨g, i, none⟩ = some (.int .i64 x)) : cellN w g i = x := by unfold cellN; rw [h]; simp [intOf]
set_option maxHeartbeats 16000000 in
set_option maxRecDepth 100000 in
theorem stretched_any {w : World} {b bx : Nat} {v : Value} {s : ByteArray} {L : List (Int × Int)} (h : OwnI w b v L) (hl : L.length ≤ 1000000) (hs : s.size ≤ 1000000) (hL : ∀ x, x ∈ L → 0 ≤ x.1 ∧ x.1 < x.2 ∧ x.2 ≤ s.size) (h0 : PT.cont (s.data.toList.getD 0 0) = false) (hbx : bx < w.heap.size) (hc : w.cell? ⟨bx, 0, none⟩ = some (.string s)) :
    Calls Tryd.prog 40 #[v, .func (.func 41) #[] #[.pointer (some ⟨bx, 0, none⟩)]] w (RowOwnI (L.map (PT.st s.data.toList)) w) := by
  have hC := CloneI_all h hl
  have eg := enters_of Tryd.func41 (by kernel_rfl) rfl
  have hlen : s.data.toList.length = s.size := by simp
  have HLL := Lib.hid hL
  have HC := Lib.hid hc
  have H0 := Lib.hid h0
  clear h hL hc h0
  go_enter Tryd.func40, Tryd.ntmps40
  go_wp2_with fail
  refine hC.mono ?_
  rintro e w1 ⟨v1, rfl, ho1, hb1⟩
  have HO1 := Lib.hid (And.intro ho1 hb1)
  obtain ⟨A1, c1, rfl, hl1, hf1⟩ := ho1.form
  have hAg : 0 < L.length → ∃ g, A1 = some ⟨g, 0, none⟩ := fun h => by obtain ⟨g, e, _⟩ := hf1 h; exact ⟨g, e⟩
  clear hC ho1 hb1 hf1
  go_wp2_with fail
  go_loopw [10] (fun i wr => StRel w s.data.toList (.slice A1 L.length c1) L i wr) (fun i _ => L.length - (intOf i).toNat)
  case atStart => exact ⟨0, rfl, Nat.zero_le _, Lib.hid (by simpa using HO1.out.1), HO1.out.2⟩
  case round =>
    obtain ⟨k, rfl, hk, HK, hbw⟩ := hrel
    clear HO1
    by_cases hlt : k < L.length
    · obtain ⟨g, rfl⟩ := hAg (by omega)
      have hx := List.getElem?_eq_getElem hlt
      have hm := HLL.out _ (List.getElem_mem hlt)
      generalize L[k] = x at hx hm
      obtain ⟨p, q⟩ := x
      dsimp only at hm
      obtain ⟨P, rfl⟩ := Int.eq_ofNat_of_zero_le hm.1
      obtain ⟨Q, rfl⟩ := Int.eq_ofNat_of_zero_le (show 0 ≤ q by omega)
      obtain ⟨HH, hHH⟩ : ∃ HH, (L.take k).map (PT.st s.data.toList) = HH := ⟨_, rfl⟩
      have hHl : HH.length = k := by rw [← hHH]; simp; omega
      have hOw := HK.out
      rw [List.drop_eq_getElem_cons hlt, hHH] at hOw
      have hxe : L[k] = ((P : Int), (Q : Int)) := by rw [List.getElem?_eq_getElem hlt] at hx; exact Option.some.inj hx
      rw [hxe] at hOw
      have HOw := Lib.hid hOw
      have HX := Lib.hid (And.intro hxe hHH)
      have hPQ : P < Q ∧ Q ≤ s.size := by omega
      have HB := Lib.hid hbw
      have HLS : Hid (HH ++ (((PT.dn s.data.toList P : Nat) : Int), ((PT.up s.data.toList Q : Nat) : Int)) :: L.drop (k + 1) = (L.take (k + 1)).map (PT.st s.data.toList) ++ L.drop (k + 1)) := Lib.hid (by
        rw [List.take_succ_eq_append_getElem hlt, List.map_append, hHH, hxe]
        simp [PT.st])
      clear hx hm hOw hxe hHH HK hbw
      obtain ⟨wo, hwo⟩ : ∃ wo : World, wo = wr := ⟨_, rfl⟩
      subst hwo
      go_wp2_with fail
      go_loopw [] (fun wr2 => StA w s.data.toList (.slice (some ⟨g, 0, none⟩) L.length c1) HH (L.drop (k + 1)) P Q wr2) (fun wr2 => cellN wr2 g (k * 2))
      case atStart => exact ⟨P, Nat.le_refl _, rfl, HOw, HB.out⟩
      case round =>
        obtain ⟨x, hxp, hdn, HO, hbw⟩ := hrel
        obtain ⟨m1, m2, m3, m4, m5, m6⟩ := HO.out.midAt
        rw [hHl] at m3 m4 m5 m6
        have hcb := (hbw.cell (p := ⟨bx, 0, none⟩) hbx).trans HC.out
        by_cases hcx : PT.cont (s.data.toList.getD x 0) = true
        · obtain ⟨y, rfl⟩ : ∃ y, x = y + 1 := by
            cases x with
            | zero => rw [H0.out] at hcx; cases hcx
            | succ y => exact ⟨y, rfl⟩
          have hD := divides_any (y + 1) (by omega) true hcx wr bx hcb
          have HDN := Lib.hid ((PT.dn_step hcx).symm.trans hdn)
          have HBW := Lib.hid hbw
          have hn := cellN_of (x := y + 1) m3
          have hW : IntKind.i64.wrap (((y + 1 : Nat) : Int) - 1) = (y : Nat) := by rw [show ((y + 1 : Nat) : Int) - 1 = (y : Nat) by omega]; exact IntWalk.i64_in _ ⟨by omega, by omega⟩
          have HS := Lib.hid (And.intro m1 m3)
          clear hcx hdn hbw m1 m4 m6
          go_wp2_with fail
          refine hD.mono ?_
          rintro e w' ⟨rfl, rfl⟩
          clear hD
          go_wp2_with fail
          exact ⟨⟨y, by omega, HDN.out, Lib.hid (by have := OwnI.mid1 HO.out (y : Int); rw [hHl] at this; exact this), below_setI HBW.out (p := ⟨g, k * 2, none⟩) HS.out.1 _⟩, by
            rw [hn, cellN_of (x := y) (by first | exact World.cell?_setCell_same _ _ _ HS.out.2 | (rw [World.cell?_setCell_same _ _ _ HS.out.2]))]; omega⟩
        · have hcf : PT.cont (s.data.toList.getD x 0) = false := by simpa using hcx
          obtain rfl : x = PT.dn s.data.toList P := by rw [← hdn]; exact (PT.dn_stop hcf).symm
          have hD := divides_any (PT.dn s.data.toList P) (by omega) false hcf wr bx hcb
          have HO5 := Lib.hid (And.intro HO.out hbw)
          generalize hdp : PT.dn s.data.toList P = x at *
          clear hcx hcf hdn hbw m1 m2 m4 m5 m6 HO HOw
          obtain ⟨wq, hwq⟩ : ∃ wq : World, wq = wr := ⟨_, rfl⟩
          subst hwq
          go_wp2_with fail
          refine hD.mono ?_
          rintro e w' ⟨rfl, rfl⟩
          clear hD
          go_wp2_with fail
          go_loopw [] (fun wr2 => StB w s.data.toList (.slice (some ⟨g, 0, none⟩) L.length c1) HH (L.drop (k + 1)) x Q wr2) (fun wr2 => s.size - cellN wr2 g (k * 2 + 1))
          case atStart => exact ⟨Q, by omega, rfl, Lib.hid HO5.out.1, HO5.out.2⟩
          case round =>
            obtain ⟨y, hy, hup, HO, hbw⟩ := hrel
            obtain ⟨m1, m2, m3, m4, m5, m6⟩ := HO.out.midAt
            rw [hHl] at m3 m4 m5 m6
            clear hcb m3
            have hcb := (hbw.cell (p := ⟨bx, 0, none⟩) hbx).trans HC.out
            have hn := cellN_of m4
            by_cases hcx : PT.cont (s.data.toList.getD y 0) = true
            · have hlt2 := PT.cont_lt hcx
              have hD := divides_any y (by omega) true hcx wr bx hcb
              have HDN := Lib.hid ((PT.up_next hcx).symm.trans hup)
              have HBW := Lib.hid hbw
              have hW : IntKind.i64.wrap ((y : Int) + 1) = ((y + 1 : Nat) : Int) := by rw [show (y : Int) + 1 = ((y + 1 : Nat) : Int) by omega]; exact IntWalk.i64_in _ ⟨by omega, by omega⟩
              have HS := Lib.hid (And.intro m1 m4)
              clear hcx hup hbw m1 m5
              go_wp2_with fail
              refine hD.mono ?_
              rintro e w' ⟨rfl, rfl⟩
              clear hD
              go_wp2_with fail
              exact ⟨⟨y + 1, by omega, HDN.out, Lib.hid (by have := OwnI.mid2 HO.out ((y + 1 : Nat) : Int); rw [hHl] at this; exact this), below_setI HBW.out (p := ⟨g, k * 2 + 1, none⟩) HS.out.1 _⟩, by
                rw [hn, cellN_of (x := y + 1) (by first | exact World.cell?_setCell_same _ _ _ HS.out.2 | (rw [World.cell?_setCell_same _ _ _ HS.out.2]))]; omega⟩
            · have hcf : PT.cont (s.data.toList.getD y 0) = false := by simpa using hcx
              obtain rfl : y = PT.up s.data.toList Q := by rw [← hup]; exact (PT.up_fix hcf).symm
              have hD := divides_any (PT.up s.data.toList Q) (by omega) false hcf wr bx hcb
              have HN := Lib.hid (And.intro HO.out hbw)
              rw [HLS.out] at HN
              generalize PT.up s.data.toList Q = y at *
              clear hcx hcf hup hbw m1 m2 m5 m6 HO
              go_wp2_with fail
              refine hD.mono ?_
              rintro e w' ⟨rfl, rfl⟩
              clear hD
              go_wp2_with fail
              exact ⟨⟨k + 1, by simp, by omega, Lib.hid HN.out.1, HN.out.2⟩, by simp [intOf]; omega⟩
    · obtain rfl : k = L.length := by omega
      have HF := HK.out
      rw [List.take_length, List.drop_length, List.append_nil] at HF
      have HO := Lib.hid (And.intro HF hbw)
      clear HF hbw
      go_wp2_with fail
      go_ret
      exact ⟨_, rfl, HO.out.1, HO.out.2⟩
end Go.Proofs.YtflilepmhidndaaDoor
