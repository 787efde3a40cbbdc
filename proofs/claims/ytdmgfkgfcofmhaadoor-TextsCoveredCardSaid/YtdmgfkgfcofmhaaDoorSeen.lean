/- Contract of privilege.Seen at a right text and right spans. -/
import Derived.Test.YtdmgfkgfcofmhaaDoorWiden
import Derived.Test.YtdmgfkgfcofmhaaDoorSeenM
import Derived.Test.YtdmgfkgfcofmhaaDoorRowsS
import Derived.Test.YtdmgfkgfcofmhaaDoorWords
import Derived.Test.YtdmgfkgfcofmhaaDoorLeaks
namespace Go.Proofs.YtdmgfkgfcofmhaaDoor
open Go.RowKit

def SeSays (s : ByteArray) (D : Int → Prop) (w : World) (e : Ending) (w' : World) : Prop := ∃ v N, e = .returned (.tuple #[v, .int .i64 0]) ∧ WM.sep N ∧ (∀ x, x ∈ N → 0 ≤ x.1 ∧ x.2 ≤ s.size) ∧ (∀ i, WM.cov N i ↔ D i) ∧ OwnS w' w.heap.size v (WM.seenW s 0 N) ∧ Below w.heap.size w w'
def SeRel (w : World) (s : ByteArray) (N : List (Int × Int)) (B Bo : Nat) (v o f i : Value) (wr : World) : Prop := ∃ (k F : Nat) (acc : List ByteArray), i = .int .i64 k ∧ f = .int .i64 F ∧ k ≤ N.length ∧ F ≤ s.size ∧ Hid (∀ x, x ∈ N.drop k → (F : Int) ≤ x.1) ∧ Hid (acc ++ WM.seenW s F (N.drop k) = WM.seenW s 0 N) ∧ Hid (acc.length ≤ k * 30000) ∧ Hid (OwnS wr Bo o acc) ∧ Hid (OwnI wr B v N) ∧ Hid (Bo ≤ wr.heap.size) ∧ Below w.heap.size w wr
set_option maxHeartbeats 16000000 in
set_option maxRecDepth 100000 in
theorem Seen_ok {w : World} {b : Nat} {v : Value} {L : List (Int × Int)} (h : OwnI w b v L) (s : ByteArray) (hB : TB.bodyC s = 0) (hLf : WM.spFault s.size L = 0) (hT : LibV w) : Calls Tryd.prog 8 #[.string s, v] w (SeSays s (WM.cov (L.map (PT.st s.data.toList))) w) := by
  have hs := (PT.body_valid hB).1
  have hlen : s.data.toList.length = s.size := by simp
  have hF := WM.spFault_ok hLf
  have hL : ∀ x, x ∈ L → 0 ≤ x.1 ∧ x.1 < x.2 ∧ x.2 ≤ s.size := fun x hx => by
    have := hF.2.2.2.2 x hx
    have h2 := WM.sep_ne hF.2.2.2.1 x hx
    omega
  have hin := PT.st_in (l := s.data.toList) (L := L) (by rw [hlen]; exact hL)
  have hord := PT.st_order (l := s.data.toList) hF.2.2.2.1 (fun x hx => (hL x hx).1)
  have hC := checkCovered_ok h s hB hLf hT
  have H := Lib.hid h
  have hP := fun W (hw : Below w.heap.size w W) => pointsWhole_any (H.out.below hw) (by have := hF.2.2.1; omega) (by omega) hL (PT.body_head hB)
  have hMl : (L.map (PT.st s.data.toList)).length ≤ 1000 := by rw [List.length_map]; exact hF.2.2.1
  generalize L.map (PT.st s.data.toList) = M at *
  rw [hlen] at hin
  have HIN := Lib.hid (And.intro hin hord)
  clear h hB hLf hT hF hL hin hord hlen
  go_enter Tryd.func8, Tryd.ntmps8
  go_wp2_with fail
  refine hC.mono ?_
  rintro e w1 ⟨rfl, hb1⟩
  have hP1 := hP w1 hb1
  have HB1 := Lib.hid hb1
  clear hC hb1 hP
  go_wp2_with fail
  refine hP1.mono ?_
  rintro e w2 ⟨v2, rfl, ho2, hb2⟩
  have HB2 := Lib.hid (HB1.out.trans (hb2.mono HB1.out.size))
  have hTg := together_any ho2 (fun x hx => (HIN.out.1 x hx).2.1) HIN.out.2 (by omega)
  obtain ⟨A2, c2, rfl, -, -⟩ := ho2.form
  clear hP1 ho2 hb2
  go_wp2_with fail
  refine hTg.mono ?_
  rintro e w3 ⟨N, hN, v3, rfl, ho3, hb3⟩
  have HB3 := Lib.hid (HB2.out.trans (hb3.mono HB2.out.size))
  have HN := Lib.hid hN
  have hNb : ∀ x, x ∈ N → 0 ≤ x.1 ∧ x.1 < x.2 ∧ x.2 ≤ s.size := fun x hx => by
    have h1 := WM.sep_ne hN.sep x hx
    obtain ⟨t, ht, e1, e2⟩ := (hN.cov x.1).1 (WM.cov_mem hx (Int.le_refl _) h1)
    obtain ⟨u, hu, e3, e4⟩ := (hN.cov (x.2 - 1)).1 (WM.cov_mem hx (by omega) (by omega))
    have := HIN.out.1 t ht
    have := HIN.out.1 u hu
    omega
  have hNl : N.length ≤ 1000 := by have := hN.len; omega
  have HNB := Lib.hid hNb
  have HO3 := Lib.hid ho3
  obtain ⟨A3, c3, rfl, hl3, hf3⟩ := ho3.form
  have hAg : 0 < N.length → ∃ g2, A3 = some ⟨g2, 0, none⟩ := fun h => by obtain ⟨g, e, _⟩ := hf3 h; exact ⟨g, e⟩
  clear hTg ho3 hb3 hN hNb hf3
  go_wp2_with fail
  go_loopw [7, 8, 22] (fun o f i wr => SeRel w s N w2.heap.size w3.heap.size (.slice A3 N.length c3) o f i wr) (fun _ _ i _ => N.length - (intOf i).toNat)
  case atStart => exact ⟨0, 0, [], rfl, rfl, Nat.zero_le _, Nat.zero_le _, Lib.hid fun x hx => (HNB.out x (by simpa using hx)).1, Lib.hid (by simp), Lib.hid (Nat.zero_le _), Lib.hid (OwnS.nil _ _), HO3, Lib.hid (Nat.le_refl _), HB3.out⟩
  case round =>
    obtain ⟨k, F, acc, rfl, rfl, hk, hFs, HFx, HE, HLn, HS, HO, HBo, hbw⟩ := hrel
    have HB := Lib.hid hbw
    have hsw := hbw.size
    have hl1 := HLn.out
    by_cases hlt : k < N.length
    · obtain ⟨g2, rfl⟩ := hAg (by omega)
      have hg3 : g2 < w3.heap.size := (HO3.out.lt g2 rfl).2
      have hx := List.getElem?_eq_getElem hlt
      have hm := HNB.out _ (List.getElem_mem hlt)
      have hdr : N.drop k = N[k] :: N.drop (k + 1) := List.drop_eq_getElem_cons hlt
      have hfx := HFx.out N[k] (by rw [hdr]; exact List.mem_cons_self)
      have hse : WM.sep (N[k] :: N.drop (k + 1)) := by
        rw [← hdr]
        have h1 := HN.out.sep
        rw [← List.take_append_drop k N] at h1
        exact WM.sep_right h1
      generalize N[k] = x at hx hm hdr hfx hse
      obtain ⟨p, q⟩ := x
      dsimp only at hm hfx
      obtain ⟨P, rfl⟩ := Int.eq_ofNat_of_zero_le hm.1
      obtain ⟨Q, rfl⟩ := Int.eq_ofNat_of_zero_le (show 0 ≤ q by omega)
      obtain ⟨d1, d2, d3, d4⟩ := HO.out.atK hx
      have i1 : (F : Int) ≤ (P : Int) := hfx
      have i2 : (P : Int) ≤ (s.size : Int) := by omega
      have hW := Words_any (s.extract F P) (by rw [ByteArray.size_extract]; omega) (wr.alloc (.cells #[.int .i64 P, .int .i64 Q] 41))
      have hwl := WM.words_len (s.extract F P)
      have hWl : (WM.words (s.extract F P)).length ≤ 20001 := by rw [ByteArray.size_extract] at hwl; omega
      have HE2 : Hid ((acc ++ WM.words (s.extract F P)) ++ WM.seenW s (Q : Nat) (N.drop (k + 1)) = WM.seenW s 0 N) := Lib.hid (by
        rw [← HE.out, hdr, List.append_assoc]
        rfl)
      have HF2 : Hid (∀ x, x ∈ N.drop (k + 1) → ((Q : Nat) : Int) ≤ x.1) := Lib.hid fun x hx => Int.le_of_lt (hse.2.1 x hx)
      generalize WM.words (s.extract F P) = PL at *
      have hK := Blk.new wr 41 #[.int .i64 P, .int .i64 Q]
      have e0 := hK.cell 0
      have e1 := hK.cell 1
      simp at e0 e1
      have HK := Lib.hid hK
      have hqs : Q ≤ s.size := by omega
      clear hx hm hbw hAg hwl hdr hfx hse hK
      obtain ⟨Ao, co, rfl, -⟩ := HS.out.form
      go_wp2_with fail
      refine hW.mono ?_
      rintro e w5 ⟨v5, rfl, ho5, hb5⟩
      have hsz5 := hb5.size
      have H5 := Lib.hid (And.intro ((HS.out.alloc (.cells #[.int .i64 P, .int .i64 Q] 41)).below hb5 (Nat.le_refl _)) (And.intro ((HO.out.alloc (.cells #[.int .i64 P, .int .i64 Q] 41)).below hb5) (And.intro ((HB.out.alloc hsw (.cells #[.int .i64 P, .int .i64 Q] 41)).trans (hb5.mono (by simp; omega))) ho5)))
      have f1 := (hb5.cell (p := ⟨wr.heap.size, 1, none⟩) (by simp)).trans (HK.out.cell 1)
      simp at f1
      have HLW := Lib.hid (show acc.length + PL.length ≤ 4000000000000 by omega)
      have HBo5 := Lib.hid (show w3.heap.size ≤ w5.heap.size by have := HBo.out; simp at hsz5; omega)
      have hwr5 : wr.heap.size < w5.heap.size := by simp at hsz5; omega
      have hwo := HBo.out
      have HB5s := H5.out.2.2.1.size
      obtain ⟨A5, c5, rfl, -⟩ := ho5.form
      have hbl : ∀ q, (Value.slice Ao acc.length co).ownBlock = some q → w3.heap.size ≤ q ∧ q < wr.heap.size := fun q hq => ⟨HS.out.base_le q hq, HS.out.lt q hq⟩
      clear hW hb5 ho5 hsz5 hl1 e0 e1
      go_wp2_with (at_builtin; refine app_strsC _ rfl (.tmp 26) (.tmp 32) rfl w3.heap.size _ _ rfl H5.out.1 _ _ PL rfl H5.out.2.2.2 ?_ HLW.out HBo5.out; intro v6 w6 ho6 hg6 _; have HO6 := Lib.hid (And.intro ho6 hg6); have f2 := (hg6.block wr.heap.size hwr5 (fun e => by have := hbl _ e.symm; omega)); have f3 : w6.cell? ⟨wr.heap.size, 1, none⟩ = some (.int .i64 (Q : Nat)) := (World.cell?_of_block f2).trans f1; clear ho6 hg6 f2 f1)
      exact ⟨⟨k + 1, Q, acc ++ PL, by simp, rfl, by omega, hqs, HF2, HE2, Lib.hid (by rw [List.length_append]; have := HLn.out; omega), Lib.hid HO6.out.1, Lib.hid (H5.out.2.1.grown HO6.out.2 (fun q hq e => by have h1 := hbl q e; have h2 : g2 = q := Option.some.inj hq; omega)), Lib.hid (Nat.le_trans HBo5.out HO6.out.2.size), H5.out.2.2.1.grown HO6.out.2 HB5s (fun q hq => by have := hbl q hq; have := HB3.out.size; omega)⟩, by simp [intOf]; omega⟩
    · obtain rfl : k = N.length := by omega
      have i1 : (F : Int) ≤ (s.size : Int) := by omega
      have hW := Words_any (s.extract F s.size) (by rw [ByteArray.size_extract]; omega) wr
      have hwl := WM.words_len (s.extract F s.size)
      have hWl : (WM.words (s.extract F s.size)).length ≤ 20001 := by rw [ByteArray.size_extract] at hwl; omega
      have HE2 : Hid (acc ++ WM.words (s.extract F s.size) = WM.seenW s 0 N) := Lib.hid (by
        rw [← HE.out, List.drop_eq_nil_of_le (Nat.le_refl _)]
        rfl)
      generalize WM.words (s.extract F s.size) = PL at *
      obtain ⟨Ao, co, rfl, -⟩ := HS.out.form
      clear hbw hAg hwl
      go_wp2_with fail
      refine hW.mono ?_
      rintro e w5 ⟨v5, rfl, ho5, hb5⟩
      have H5 := Lib.hid (And.intro (HS.out.below hb5 (Nat.le_refl _)) (And.intro (HB.out.trans (hb5.mono HB.out.size)) ho5))
      have HLW := Lib.hid (show acc.length + PL.length ≤ 4000000000000 by omega)
      have HBo5 := Lib.hid (show w3.heap.size ≤ w5.heap.size from Nat.le_trans HBo.out hb5.size)
      have HB5s := H5.out.2.1.size
      obtain ⟨A5, c5, rfl, -⟩ := ho5.form
      have hbl : ∀ q, (Value.slice Ao acc.length co).ownBlock = some q → w3.heap.size ≤ q := fun q hq => HS.out.base_le q hq
      have hB3 := HB3.out.size
      clear hW hb5 ho5 hl1
      go_wp2_with (at_builtin; refine app_strsC _ rfl (.tmp 37) (.tmp 41) rfl w3.heap.size _ _ rfl H5.out.1 _ _ PL rfl H5.out.2.2 ?_ HLW.out HBo5.out; intro v6 w6 ho6 hg6 _; have HO6 := Lib.hid (And.intro ho6 hg6); clear ho6 hg6)
      have HF := Lib.hid (show OwnS w6 w.heap.size v6 (WM.seenW s 0 N) by rw [← HE2.out]; exact HO6.out.1.less hB3)
      have HBF := Lib.hid (show Below w.heap.size w w6 from H5.out.2.1.grown HO6.out.2 HB5s (fun q hq => by have := hbl q hq; omega))
      go_ret2
      exact ⟨_, N, rfl, HN.out.sep, fun x hx => by have := HNB.out x hx; omega, HN.out.cov, HF.out, HBF.out⟩
end Go.Proofs.YtdmgfkgfcofmhaaDoor
