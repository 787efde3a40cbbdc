/- Contract of the reference's SeenOf. -/
import Derived.Test.YtdmgfkgfcofmhaaDoorCovOf
import Derived.Test.YtdmgfkgfcofmhaaDoorSeenM
import Derived.Test.YtdmgfkgfcofmhaaDoorRowsS
import Derived.Test.YtdmgfkgfcofmhaaDoorWordsOf
namespace WM
theorem hid_take {s : ByteArray} {M : List (Int × Int)} {k : Nat} {x : Int × Int} (h : M[k]? = some x) : hid s (M.take (k + 1)) = hid s (M.take k) ++ words (s.extract x.1.toNat x.2.toNat) := by
  unfold hid
  rw [List.take_add_one, h, List.flatMap_append]
  simp
end WM
namespace Go.Proofs.YtdmgfkgfcofmhaaDoor
open Go.RowKit

/-- the first k are turned -/
def flipB (f : Nat → Bool) (k j : Nat) : Bool := if j < k then !f j else f j
def FlRel (w : World) (f : Nat → Bool) (n g : Nat) (i : Value) (wr : World) : Prop := ∃ k : Nat, i = .int .i64 k ∧ k ≤ n ∧ Hid (Bits wr g n (flipB f k)) ∧ Below w.heap.size w wr
def SoRel (w : World) (s : ByteArray) (M : List (Int × Int)) (B Bo : Nat) (v o i : Value) (wr : World) : Prop := ∃ k : Nat, i = .int .i64 k ∧ k ≤ M.length ∧ Hid ((WM.hid s (M.take k)).length ≤ k * 30000) ∧ Hid (OwnS wr Bo o (WM.hid s (M.take k))) ∧ Hid (OwnI wr B v M) ∧ Hid (Bo ≤ wr.heap.size) ∧ Below w.heap.size w wr
/-- the words of what f leaves -/
def SeenSays (s : ByteArray) (f : Nat → Bool) (w : World) (e : Ending) (w' : World) : Prop := ∃ M, WM.Ran f s.size M ∧ RowNew (WM.hid s M) w e w'
set_option maxHeartbeats 8000000 in
set_option maxRecDepth 100000 in
theorem SeenOf_ok {w : World} {b : Nat} {v : Value} {L : List (Int × Int)} (h : OwnI w b v L) (s : ByteArray) (hs : s.size ≤ 20000) (hv : Go.Lib.validD s.data.toList = true) (hL : ∀ x, x ∈ L → 0 ≤ x.1 ∧ x.1 < x.2 ∧ x.2 ≤ s.size) (hT : LibV w) :
    Calls Tryd.prog 17 #[.string s, v] w (SeenSays s (fun j => !PT.covB s.data.toList (WM.cov L) j) w) := by
  have hC := coveredOf_any h s (by omega) hv hL hT
  unfold CovSays at hC
  obtain ⟨f, hf⟩ : ∃ f, PT.covB s.data.toList (WM.cov L) = f := ⟨_, rfl⟩
  rw [hf] at hC ⊢
  clear h hv hL hT hf
  go_enter Tryd.func17, Tryd.ntmps17
  go_wp2_with fail
  refine hC.mono ?_
  rintro e w2 ⟨g, rfl, hg2, hB2, hb2⟩
  have HW2 := Lib.hid hb2
  have HBT := Lib.hid hB2
  clear hC hb2 hB2
  go_wp2_with fail
  go_loopw [15] (fun i wr => FlRel w f s.size g i wr) (fun i _ => s.size - (intOf i).toNat)
  case atStart => exact ⟨0, rfl, Nat.zero_le _, Lib.hid (HBT.out.congr fun j _ => by unfold flipB; rw [if_neg (by omega)]), HW2.out⟩
  case round =>
    obtain ⟨k, rfl, hk, HF, hbw⟩ := hrel
    have HB := Lib.hid hbw
    by_cases hlt : k < s.size
    · have c1 := HF.out.cell hlt
      have z1 := HF.out.frozen k
      have ek : flipB f k k = f k := by unfold flipB; rw [if_neg (by omega)]
      rw [ek] at c1
      have HN : Hid (Bits (wr.setCell ⟨g, k, none⟩ (.bool (!f k))) g s.size (flipB f (k + 1))) := Lib.hid ((HF.out.set k (!f k)).congr fun j _ => by
        unfold flipB
        by_cases h1 : j = k
        · rw [if_pos h1, if_pos (by omega), h1]
        · rw [if_neg h1]
          by_cases h2 : j < k
          · rw [if_pos h2, if_pos (by omega)]
          · rw [if_neg h2, if_neg (by omega)])
      have HB2 := Lib.hid (below_setI hbw (p := ⟨g, k, none⟩) hg2 (.bool (!f k)))
      generalize f k = c at *
      clear hbw ek
      go_wp2_with fail
      exact ⟨⟨k + 1, by simp, by omega, HN, HB2.out⟩, by simp [intOf]; omega⟩
    · obtain rfl : k = s.size := by omega
      have hS := spansFrom_any (p := fun j => !f j) (HF.out.congr fun j hj => by unfold flipB; rw [if_pos hj]) (by omega)
      clear hbw
      go_wp2_with fail
      refine hS.mono ?_
      rintro e w3 ⟨M, hM, v3, rfl, ho3, hb3⟩
      have HM := Lib.hid hM
      have HB3 := Lib.hid (HB.out.trans (hb3.mono HB.out.size))
      have hMb : ∀ x, x ∈ M → 0 ≤ x.1 ∧ x.1 < x.2 ∧ x.2 ≤ s.size := fun x hx => by
        have h1 := WM.sep_ne hM.sep x hx
        have h2 := hM.end_ x hx
        obtain ⟨q, e, -, -⟩ := (hM.cov x.1).1 (WM.cov_mem hx (Int.le_refl _) h1)
        omega
      have hMl : M.length ≤ 20000 := by
        have := WM.sep_size (a := 0) (n := s.size) hM.sep (fun x hx => ⟨(hMb x hx).1, (hMb x hx).2.2⟩) (by omega)
        omega
      have HMB := Lib.hid hMb
      have HO3 := Lib.hid ho3
      obtain ⟨A, cap, rfl, hl3, hf3⟩ := ho3.form
      have hAg : 0 < M.length → ∃ g2, A = some ⟨g2, 0, none⟩ := fun h => by obtain ⟨g, e, _⟩ := hf3 h; exact ⟨g, e⟩
      clear hS hM ho3 hb3 hMb hf3
      go_wp2_with fail
      go_loopw [5, 30] (fun o i wr2 => SoRel w s M wr.heap.size w3.heap.size (.slice A M.length cap) o i wr2) (fun _ i _ => M.length - (intOf i).toNat)
      case atStart => exact ⟨0, rfl, Nat.zero_le _, Lib.hid (by simp [WM.hid]), Lib.hid (OwnS.nil _ _), HO3, Lib.hid (Nat.le_refl _), HB3.out⟩
      case round =>
        obtain ⟨k, rfl, hk, HLn, HS, HO, HBo, hbw⟩ := hrel
        by_cases hlt : k < M.length
        · obtain ⟨g2, rfl⟩ := hAg (by omega)
          have hx := List.getElem?_eq_getElem hlt
          have hm := HMB.out _ (List.getElem_mem hlt)
          generalize M[k] = x at hx hm
          obtain ⟨p, q⟩ := x
          dsimp only at hm
          obtain ⟨P, rfl⟩ := Int.eq_ofNat_of_zero_le hm.1
          obtain ⟨Q, rfl⟩ := Int.eq_ofNat_of_zero_le (show 0 ≤ q by omega)
          obtain ⟨c1, c2, c3, c4⟩ := HO.out.atK hx
          have i1 : (P : Int) ≤ (Q : Int) := by omega
          have i2 : (Q : Int) ≤ (s.size : Int) := by omega
          have HTK := Lib.hid (WM.hid_take (s := s) hx)
          have HB := Lib.hid hbw
          have hsw := hbw.size
          have hW := WordsOf_any (s.extract P Q) (by rw [ByteArray.size_extract]; omega) (wr.alloc (.cells #[.int .i64 P, .int .i64 Q] 41))
          have hwl := WM.words_len (s.extract P Q)
          have hWl : (WM.words (s.extract P Q)).length ≤ 20001 := by rw [ByteArray.size_extract] at hwl; omega
          simp only [Int.toNat_natCast] at HTK
          generalize WM.words (s.extract P Q) = PL at *
          have HE := Lib.hid (Blk.new wr 41 #[.int .i64 P, .int .i64 Q])
          clear hx hm hbw hAg hwl
          have hg3 : g2 < w3.heap.size := (HO3.out.lt g2 rfl).2
          obtain ⟨Ao, co, rfl, -⟩ := HS.out.form
          go_wp2_with fail
          refine hW.mono ?_
          rintro e w5 ⟨v5, rfl, ho5, hb5⟩
          have hsz5 := hb5.size
          have H5 := Lib.hid (And.intro ((HS.out.alloc (.cells #[.int .i64 P, .int .i64 Q] 41)).below hb5 (Nat.le_refl _)) (And.intro ((HO.out.alloc (.cells #[.int .i64 P, .int .i64 Q] 41)).below hb5) (And.intro ((HB.out.alloc hsw (.cells #[.int .i64 P, .int .i64 Q] 41)).trans (hb5.mono (by simp; omega))) ho5)))
          have hl1 := HLn.out
          have HLW := Lib.hid (show (WM.hid s (M.take k)).length + PL.length ≤ 4000000000000 by omega)
          have HBo5 := Lib.hid (show w3.heap.size ≤ w5.heap.size by have := HBo.out; simp at hsz5; omega)
          have HB5s := H5.out.2.2.1.size
          obtain ⟨A5, c5, rfl, -⟩ := ho5.form
          clear hW hb5 ho5 hsz5 hl1
          go_wp2_with (at_builtin; refine app_strsC _ rfl (.tmp 34) (.tmp 41) rfl w3.heap.size _ _ rfl H5.out.1 _ _ PL rfl H5.out.2.2.2 ?_ HLW.out HBo5.out; intro v6 w6 ho6 hg6 _; have HO6 := Lib.hid (And.intro ho6 hg6); clear ho6 hg6)
          have hbl : ∀ q, (Value.slice Ao (WM.hid s (M.take k)).length co).ownBlock = some q → w3.heap.size ≤ q := fun q hq => H5.out.1.base_le q hq
          exact ⟨⟨k + 1, by simp, by omega, Lib.hid (by rw [HTK.out, List.length_append]; have := HLn.out; omega), Lib.hid (by rw [HTK.out]; exact HO6.out.1), Lib.hid (H5.out.2.1.grown HO6.out.2 (fun q hq e => by have h1 := hbl q e; have h2 : g2 = q := Option.some.inj hq; omega)), Lib.hid (Nat.le_trans HBo5.out HO6.out.2.size), H5.out.2.2.1.grown HO6.out.2 HB5s (fun q hq => by have := hbl q hq; have := HB3.out.size; omega)⟩, by simp [intOf]; omega⟩
        · obtain rfl : k = M.length := by omega
          have hS := HS.out
          rw [List.take_length] at hS
          have HB := Lib.hid hbw
          have hB3 := HB3.out.size
          have HF := Lib.hid (hS.less hB3)
          obtain ⟨Ao, co, rfl, -⟩ := hS.form
          clear hS hbw hAg
          go_wp2_with fail
          go_ret
          exact ⟨M, HM.out, _, rfl, HF.out, HB.out⟩
end Go.Proofs.YtdmgfkgfcofmhaaDoor
