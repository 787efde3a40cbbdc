/- Contract of the reference's LeaksOf. -/
import Derived.Test.YtdmgfkgfcofmhaaDoorLkOfM
import Derived.Deep.DeepCutAuto
namespace Go.Proofs.YtdmgfkgfcofmhaaDoor
open Go.RowKit Go.Maps

theorem Bits.kept_ {w w' : World} {g n : Nat} {p : Nat → Bool} {row : Nat} (h : Bits w g n p) (hg : w.grownBy w' (some row)) (hne : g ≠ row) : Bits w' g n p :=
  World.rowIs.of_block h (hg.block g h.lt (fun e => hne (by injection e)))
theorem Bits.kept2 {w w' : World} {g n : Nat} {p : Nat → Bool} {row : Option Nat} (h : Bits w g n p) (hg : w.grownBy w' row) (hne : row ≠ some g) : Bits w' g n p :=
  World.rowIs.of_block h (hg.block g h.lt (fun e => hne e.symm))
def LoRel (w : World) (s : ByteArray) (M : List (Int × Int)) (f : Nat → Bool) (gc mb : Nat) (i : Value) (wr : World) : Prop := ∃ k n : Nat, i = .int .i64 k ∧ k ≤ M.length ∧ n ≤ k * 30000 ∧ Hid (OwnM wr mb n (WM.hid s (M.take k))) ∧ Hid (Bits wr gc s.size f) ∧ Below w.heap.size w wr
def LoIn (w : World) (s : ByteArray) (M : List (Int × Int)) (f : Nat → Bool) (P : List ByteArray) (gc mb B2 n k : Nat) (v2 i : Value) (wr : World) : Prop := ∃ j : Nat, i = .int .i64 j ∧ j ≤ P.length ∧ Hid (OwnM wr mb (n + j) (WM.hid s (M.take k) ++ P.take j)) ∧ Hid (Bits wr gc s.size f) ∧ Hid (OwnS wr B2 v2 P) ∧ Below w.heap.size w wr
def LoLk (w : World) (s : ByteArray) (H : List ByteArray) (M : List (Int × Int)) (R : List (Nat × Nat)) (f : Nat → Bool) (gc mb n B7 Bo : Nat) (v7 o i : Value) (wr : World) : Prop := ∃ k : Nat, i = .int .i64 k ∧ k ≤ R.length ∧ Bo ≤ wr.heap.size ∧ Hid (OwnI wr Bo o (leaksL H M ((R.take k).map (WM.wordAt (WM.small s))))) ∧ Hid (OwnM wr mb n H) ∧ Hid (Bits wr gc s.size f) ∧ Hid (OwnI wr B7 v7 (R.map WM.toI)) ∧ Below w.heap.size w wr
set_option maxHeartbeats 16000000 in
set_option maxRecDepth 100000 in
theorem LeaksOf_ok {w : World} {b : Nat} {v : Value} {L : List (Int × Int)} (h : OwnI w b v L) (s : ByteArray) (hs : s.size ≤ 20000) (hv : Go.Lib.validD s.data.toList = true) (hL : ∀ x, x ∈ L → 0 ≤ x.1 ∧ x.1 < x.2 ∧ x.2 ≤ s.size) (hLl : L.length ≤ 1000) (hT : LibV w) :
    Calls Tryd.prog 12 #[.string s, v] w (SpSays (WM.bList (leaksL (WM.hid s (L.map (PT.st s.data.toList))) (L.map (PT.st s.data.toList)) (WM.qwords s))) (WM.bCode (leaksL (WM.hid s (L.map (PT.st s.data.toList))) (L.map (PT.st s.data.toList)) (WM.qwords s))) w) := by
  have hlen : s.data.toList.length = s.size := by simp
  have hC := coveredOf_any h s (by omega) hv hL hT
  unfold CovSays at hC
  have htouch := fun P Q hPQ => touch_iff (l := s.data.toList) (L := L) (by rw [hlen]; exact hL) (P := P) (Q := Q) hPQ
  obtain ⟨f, hf⟩ : ∃ f, PT.covB s.data.toList (WM.cov L) = f := ⟨_, rfl⟩
  rw [hf] at hC htouch
  rw [qwords_map]
  obtain ⟨M, hM⟩ : ∃ M, L.map (PT.st s.data.toList) = M := ⟨_, rfl⟩
  have hMl : M.length = L.length := by rw [← hM, List.length_map]
  rw [hM] at htouch ⊢
  have HMM := Lib.hid hM
  have HTCH := Lib.hid htouch
  have HV := Lib.hid hv
  have HL := Lib.hid hL
  have HT := Lib.hid hT
  have htop := hT.2
  have H := Lib.hid h
  obtain ⟨A, cap, rfl, -, hf0⟩ := h.form
  have hAg : 0 < L.length → ∃ g2, A = some ⟨g2, 0, none⟩ := fun h => by obtain ⟨g, e, _⟩ := hf0 h; exact ⟨g, e⟩
  have hmm := @run_makeMap Tryd.prog
  clear h hv hL hT hM hf htouch hf0
  go_enter Tryd.func12, Tryd.ntmps12
  go_wp2_with fail
  refine hC.mono ?_
  rintro e w2 ⟨gc, rfl, hg2, hB2, hb2⟩
  have HW2 := Lib.hid hb2
  have HBT := Lib.hid hB2
  have hsz2 := hb2.size
  have hgc2 := hB2.lt
  clear hC hb2 hB2
  go_wp2_with fail
  go_loopw [25] (fun i wr => LoRel w s M f gc w2.heap.size i wr) (fun i _ => L.length - (intOf i).toNat)
  case atStart => exact ⟨0, 0, rfl, Nat.zero_le _, Nat.zero_le _, Lib.hid (OwnM.made w2), Lib.hid (HBT.out.alloc _), HW2.out.alloc hsz2 _⟩
  case round =>
    obtain ⟨k, n, rfl, hk, hn, HM, HF, hbw⟩ := hrel
    by_cases hlt : k < L.length
    · obtain ⟨g2, rfl⟩ := hAg (by omega)
      have HO := Lib.hid (H.out.below hbw)
      have hx := List.getElem?_eq_getElem hlt
      have hm := HL.out _ (List.getElem_mem hlt)
      have hMx : M[k]? = some (PT.st s.data.toList L[k]) := by rw [← HMM.out, List.getElem?_map, hx]; rfl
      generalize L[k] = x at hx hm hMx
      obtain ⟨p, q⟩ := x
      dsimp only at hm
      obtain ⟨P, rfl⟩ := Int.eq_ofNat_of_zero_le hm.1
      obtain ⟨Q, rfl⟩ := Int.eq_ofNat_of_zero_le (show 0 ≤ q by omega)
      obtain ⟨c1, c2, c3, c4⟩ := HO.out.atK hx
      have hPQ : P < Q ∧ Q ≤ s.size := by omega
      simp only [PT.st, Int.toNat_natCast] at hMx
      have HTK := Lib.hid (WM.hid_take (s := s) hMx)
      simp only [Int.toNat_natCast] at HTK
      have hcs := fun j => PT.cov_span (l := s.data.toList) (P := P) (Q := Q) hPQ.1 (by omega) j
      have hab : PT.dn s.data.toList P < PT.up s.data.toList Q ∧ PT.up s.data.toList Q ≤ s.size := by
        have h1 := PT.dn_le s.data.toList P
        have h2 := PT.up_le (l := s.data.toList) (i := Q) (by omega)
        omega
      have HB := Lib.hid hbw
      have hsw := hbw.size
      obtain ⟨wo, hwo⟩ : ∃ wo : World, wo = wr := ⟨_, rfl⟩
      subst hwo
      have hE := (Blk.new wo 41 #[.int .i64 P, .int .i64 Q])
      have e0 := hE.cell 0
      have e1 := hE.cell 1
      simp at e0 e1
      have hbA : Below wo.heap.size wo (wo.alloc (.cells #[.int .i64 P, .int .i64 Q] 41)) := (Below.refl _ _).alloc (Nat.le_refl _) _
      have hO1 : OwnI ((wo.alloc (.cells #[.int .i64 P, .int .i64 Q] 41)).alloc (.cells #[.int .i64 P, .int .i64 Q] 41)) (wo.alloc (.cells #[.int .i64 P, .int .i64 Q] 41)).heap.size (.slice (some ⟨(wo.alloc (.cells #[.int .i64 P, .int .i64 Q] 41)).heap.size, 0, none⟩) 1 1) [((P : Int), (Q : Int))] :=
        ⟨rfl, .inr ⟨_, 1, #[.int .i64 P, .int .i64 Q], rfl, Nat.le_refl _, heap_alloc_new _ _, Nat.le_refl _, by unfold maxLen; omega, rfl, rfl⟩⟩
      have hbAA := hbA.alloc (o := .cells #[.int .i64 P, .int .i64 Q] 41) (by simp)
      have hC2 := coveredOf_any hO1 s (by omega) HV.out (fun x hx => by rw [List.mem_singleton.1 hx]; dsimp only; omega) ((HT.out.below hbw htop).belowW hbAA)
      unfold CovSays at hC2
      obtain ⟨fo, hfo⟩ : ∃ fo, PT.covB s.data.toList (WM.cov [((P : Int), (Q : Int))]) = fo := ⟨_, rfl⟩
      rw [hfo] at hC2 hcs
      generalize PT.dn s.data.toList P = A1 at *
      generalize PT.up s.data.toList Q = B1 at *
      have HCS := Lib.hid hcs
      have HBAA := Lib.hid hbAA
      clear hx hm hMx hbw hE hAg hO1 hbA hbAA hfo hcs
      rw [show (wo.alloc (.cells #[.int .i64 P, .int .i64 Q] 41)).heap.size = wo.heap.size + 1 by simp] at hC2
      go_wp2_with fail
      refine hC2.mono ?_
      rintro e w4 ⟨go, rfl, -, hBo, hb4⟩
      have H4 := Lib.hid (And.intro ((HM.out.below HBAA.out).below (hb4.mono (Nat.le_refl _))) (And.intro ((HF.out.below HBAA.out (HF.out.lt)).below hb4 (Nat.lt_of_lt_of_le HF.out.lt HBAA.out.size)) ((HB.out.trans (HBAA.out.mono hsw)).trans (hb4.mono (Nat.le_trans hsw HBAA.out.size)))))
      have HBO := Lib.hid hBo
      have hw4 := H4.out.2.2.size
      have hw24 : w2.heap.size < w4.heap.size := H4.out.1.lt
      clear hC2 hb4 hBo e0 e1 c1 c2 c3 c4
      go_wp2_with fail
      go_loop [10, 35] (fun part i => ∃ j : Nat, i = .int .i64 j ∧ j ≤ s.size ∧ part = .string (WM.partS s A1 B1 j)) (fun _ i => s.size - (intOf i).toNat)
      case atStart => exact ⟨0, rfl, Nat.zero_le _, by rw [WM.part_zero]⟩
      case round =>
        obtain ⟨j, rfl, hj, rfl⟩ := hrel
        by_cases hjl : j < s.size
        · have c1 := HBO.out.cell hjl
          have hps := WM.part_size s A1 B1 j
          have hW : IntKind.i64.wrap ((j : Int) + 1) = ((j + 1 : Nat) : Int) := by rw [show (j : Int) + 1 = ((j + 1 : Nat) : Int) by omega]; exact IntWalk.i64_in _ ⟨by omega, by omega⟩
          have i1 : (j : Int) ≤ ((j + 1 : Nat) : Int) := by omega
          have i2 : ((j + 1 : Nat) : Int) ≤ (s.size : Int) := by omega
          cases ho : fo j
          · rw [ho] at c1
            have HP := Lib.hid (WM.part_off (s := s) (A := A1) (B := B1) (i := j) (fun h => by rw [HCS.out, decide_eq_true h.1, decide_eq_true h.2] at ho; cases ho) hab.1)
            clear ho
            go_wp2_with fail
            exact ⟨⟨j + 1, by simp, by omega, by rw [HP.out]⟩, by simp [intOf]; omega⟩
          · rw [ho] at c1
            have hab2 : A1 ≤ j ∧ j < B1 := by
              rw [HCS.out] at ho
              simp only [Bool.and_eq_true, decide_eq_true_eq] at ho
              exact ho
            have HP := Lib.hid (WM.part_on (s := s) (A := A1) (B := B1) (i := j) hab2.1 hab2.2 hjl)
            have hx1 : (s.extract j (j + 1)).size = 1 := by rw [ByteArray.size_extract]; omega
            generalize WM.partS s A1 B1 j = PJ at *
            clear ho
            go_wp2_with fail
            exact ⟨⟨j + 1, by simp, by omega, by rw [HP.out]⟩, by simp [intOf]; omega⟩
        · obtain rfl : j = s.size := by omega
          have hpa := WM.part_all (s := s) (A := A1) (B := B1) hab.2
          rw [hpa]
          have hW := WordsOf_any (s.extract A1 B1) (by rw [ByteArray.size_extract]; omega) w4
          have hsx : (s.extract A1 B1).size ≤ 20000 := by rw [ByteArray.size_extract]; omega
          have hPl := WM.words_len (s.extract A1 B1)
          have hPs : ∀ x, x ∈ WM.words (s.extract A1 B1) → x.size ≤ 20000 := fun x hx => Nat.le_trans (WM.words_small hx) hsx
          generalize WM.words (s.extract A1 B1) = PL at *
          clear hpa
          go_wp2_with fail
          refine hW.mono ?_
          rintro e w5 ⟨v5, rfl, ho5, hb5⟩
          have H5 := Lib.hid (And.intro (H4.out.1.below hb5) (And.intro (H4.out.2.1.below hb5 H4.out.2.1.lt) (H4.out.2.2.trans (hb5.mono hw4))))
          have HS5 := Lib.hid ho5
          have HPS := Lib.hid hPs
          obtain ⟨A5, c5, rfl, -⟩ := ho5.form
          have hPl2 : PL.length ≤ 20001 := by omega
          clear hW ho5 hb5 hPs hPl hsx
          go_wp2_with fail
          go_loopw [52] (fun i wr => LoIn w s M f PL gc w2.heap.size w4.heap.size n k (.slice A5 PL.length c5) i wr) (fun i _ => PL.length - (intOf i).toNat)
          case atStart => exact ⟨0, rfl, Nat.zero_le _, Lib.hid (by simpa using H5.out.1), Lib.hid H5.out.2.1, HS5, H5.out.2.2⟩
          case round =>
            obtain ⟨j, rfl, hj, HMj, HFj, HSj, hbj⟩ := hrel
            by_cases hjl : j < PL.length
            · obtain ⟨A6, c6, e6, hf6⟩ := HSj.out.form
              injection e6 with e6 _ e8
              subst e6
              subst e8
              obtain ⟨g6, rfl, h61, h62, hcs⟩ := hf6 (by omega)
              have hx6 := List.getElem?_eq_getElem hjl
              have hm6 := HPS.out _ (List.getElem_mem hjl)
              generalize PL[j] = x6 at hx6 hm6
              have hc6 := hcs j x6 hx6
              have HT6 : Hid (PL.take (j + 1) = PL.take j ++ [x6]) := Lib.hid (by rw [List.take_add_one, hx6]; rfl)
              obtain ⟨D, hown, hI, h3⟩ := HMj.out
              have hkey := WideMaps.keyOf_string_mk (P := Tryd.prog) (k := 9) Tryd.underlying9 (s := x6) (by unfold maxLen; omega)
              have HI := Lib.hid (And.intro hI h3)
              have HBJ := Lib.hid hbj
              clear hx6 hcs hf6 hI h3 hbj
              go_wp2_with (at_mapUpdate; refine wpList_mapUpdate_own _ rfl _ _ _ 55 rfl 9 4 lawM Tryd.underlying55 _ w2.heap.size (n + j) D rfl hown (by unfold maxLen; omega) _ _ _ rfl rfl hkey _ [] (plainElem_bool Tryd.underlying4 true) ?_; intro w6 hown6 hg6; have H6 := Lib.hid (And.intro hown6 hg6); clear hown6 hg6)
              exact ⟨⟨j + 1, by simp, by omega, Lib.hid (by have := OwnM.put HI.out.1 HI.out.2 x6 H6.out.1; rw [HT6.out, ← List.append_assoc]; exact this), Lib.hid (HFj.out.kept_ H6.out.2 (by omega)), Lib.hid (HSj.out.grown H6.out.2 (fun q hq e => by have := HSj.out.base_le q hq; injection e; omega)), HBJ.out.grown H6.out.2 HBJ.out.size (fun q hq => by injection hq; omega)⟩, by simp [intOf]; omega⟩
            · obtain rfl : j = PL.length := by omega
              have HMF := Lib.hid (show OwnM wr w2.heap.size (n + PL.length) (WM.hid s (M.take (k + 1))) by rw [HTK.out]; have := HMj.out; rwa [List.take_length] at this)
              have HBF := Lib.hid hbj
              clear hbj
              go_wp2_with fail
              exact ⟨⟨k + 1, n + PL.length, by simp, by omega, by omega, HMF, HFj, HBF.out⟩, by simp [intOf]; omega⟩
    · obtain rfl : k = L.length := by omega
      have HMF := Lib.hid (show OwnM wr w2.heap.size n (WM.hid s M) by have := HM.out; rwa [← hMl, List.take_length] at this)
      have HBF := Lib.hid hbw
      have hQ := wordSpans_any s (by omega) wr
      have hRg := WM.runs_good WM.wordB s
      have hRl := runs_le s
      clear hbw hAg
      go_wp2_with fail
      refine hQ.mono ?_
      rintro e w7 ⟨v7, rfl, ho7, hb7⟩
      have HM7 := Lib.hid (HMF.out.below hb7)
      have HB7 := Lib.hid (HBF.out.trans (hb7.mono HBF.out.size))
      have HF7 := Lib.hid (HF.out.below hb7 HF.out.lt)
      have HP7 := Lib.hid ho7.toI
      obtain ⟨A7, c7, rfl, -⟩ := ho7.form
      clear hQ hb7 ho7
      generalize WM.runs WM.wordB s = R at *
      generalize WM.hid s M = HS at *
      have HRG := Lib.hid hRg
      have HLT := Lib.hid (And.intro (fun q hq => (HP7.out.lt q hq).2) (And.intro HM7.out.lt HF7.out.lt))
      clear hRg
      go_wp2_with fail
      go_loopw [16, 63] (fun o i wr2 => LoLk w s HS M R f gc w2.heap.size n wr.heap.size w7.heap.size (.slice A7 R.length c7) o i wr2) (fun _ i _ => R.length - (intOf i).toNat)
      case atStart => exact ⟨0, rfl, Nat.zero_le _, Nat.le_refl _, Lib.hid (OwnI.nil _ _), HM7, HF7, HP7, HB7.out⟩
      case round =>
        obtain ⟨k, rfl, hk, hBo, HR, HMr, HFr, HWr, hbw⟩ := hrel
        by_cases hlt : k < R.length
        · obtain ⟨g8, rfl⟩ : ∃ g8, A7 = some ⟨g8, 0, none⟩ := by
            obtain ⟨A8, c8, e8, -, hf8⟩ := HWr.out.form
            injection e8 with e8 _ _
            subst e8
            obtain ⟨g, e, -⟩ := hf8 (by rw [List.length_map]; omega)
            exact ⟨g, e⟩
          have hx := List.getElem?_eq_getElem hlt
          have hm := HRG.out _ (List.getElem_mem hlt)
          have hxi : (R.map WM.toI)[k]? = some (WM.toI R[k]) := by rw [List.getElem?_map, hx]; rfl
          generalize R[k] = x at hx hm hxi
          obtain ⟨p, q⟩ := x
          simp only [WM.toI] at hxi
          dsimp only at hm
          obtain ⟨d1, d2, d3, d4⟩ := HWr.out.atK hxi
          have HX := Lib.hid hx
          have HB := Lib.hid hbw
          have hsw := hbw.size
          obtain ⟨wo, hwo⟩ : ∃ wo : World, wo = wr := ⟨_, rfl⟩
          subst hwo
          have hE := (Blk.new wo 41 #[.int .i64 p, .int .i64 q])
          have e0 := hE.cell 0
          have e1 := hE.cell 1
          simp at e0 e1
          have HTK : Hid (leaksL HS M ((R.take (k + 1)).map (WM.wordAt (WM.small s))) = leaksL HS M ((R.take k).map (WM.wordAt (WM.small s))) ++ if leakB HS M ((p : Int), (q : Int), WM.small (s.extract p q)) then [((p : Int), (q : Int))] else []) := Lib.hid (by
            unfold leaksL
            rw [List.take_add_one, HX.out, List.map_append, List.filter_append, List.map_append]
            congr 1
            simp only [Option.toList, List.map_cons, List.map_nil, WM.wordAt, WM.small_extract, List.filter_cons, List.filter_nil]
            split <;> rfl)
          have hbA : Below wo.heap.size wo (wo.alloc (.cells #[.int .i64 p, .int .i64 q] 41)) := (Below.refl _ _).alloc (Nat.le_refl _) _
          have HA := Lib.hid (And.intro (HR.out.alloc (.cells #[.int .i64 p, .int .i64 q] 41)) (And.intro (HMr.out.below hbA) (And.intro (HFr.out.alloc (.cells #[.int .i64 p, .int .i64 q] 41)) (And.intro (HWr.out.alloc (.cells #[.int .i64 p, .int .i64 q] 41)) (HB.out.alloc hsw (.cells #[.int .i64 p, .int .i64 q] 41))))))
          have HE := Lib.hid hE
          have hwA : wo.heap.size < (wo.alloc (.cells #[.int .i64 p, .int .i64 q] 41)).heap.size := by simp
          clear hx hxi hbw hE hbA
          go_upto_region 24 with fail
          generalize hWA : wo.alloc (.cells #[.int .i64 p, .int .i64 q] 41) = WA at *
          go_cut [93] (fun s0 wx => s0 = .bool (leakB HS M ((p : Int), (q : Int), WM.small (s.extract p q))) ∧ Below WA.heap.size WA wx)
          case first =>
            have e0 := HE.out.cell 0
            have e1 := HE.out.cell 1
            simp only [List.getElem?_toArray, List.getElem?_cons_succ, List.getElem?_cons_zero] at e0 e1
            have hW : IntKind.i64.wrap ((q : Int) - (p : Int)) = (q : Int) - (p : Int) := IntWalk.i64_in _ ⟨by omega, by omega⟩
            have i1 : (p : Int) ≤ (q : Int) := by omega
            have i2 : (q : Int) ≤ (s.size : Int) := by omega
            have hWAx := hWA
            clear d1 d2 d3 d4 hWA
            by_cases h4 : 4 ≤ (q : Int) - (p : Int)
            · have hd4 : decide (4 ≤ (q : Int) - (p : Int)) = true := decide_eq_true h4
              have i4 : ¬ s.size = p := by omega
              obtain ⟨c, hc⟩ : ∃ c, M.any (inT (p : Nat) (q : Nat)) = c := ⟨_, rfl⟩
              have ht := HTCH.out p q hm.1
              rw [hc] at ht
              have hCB := ContainsB_any HA.out.2.2.1 p (q - p) (s.size - p) (by omega) (by omega) c ht
              have HLB : Hid (leakB HS M ((p : Int), (q : Int), WM.small (s.extract p q)) = (hasM HS (WM.small (s.extract p q)) && !c)) := Lib.hid (by unfold leakB; dsimp only; rw [hd4, hc, Bool.true_and])
              have hlow := fun W => lower_any (s.extract p q) (by rw [ByteArray.size_extract]; omega) W
              have hsu : (WM.small (s.extract p q)).size ≤ maxLen := by rw [WM.small_size, ByteArray.size_extract]; unfold maxLen; omega
              clear ht hc hWAx
              cases c
              · go_wp2_with fail
                refine hCB.mono ?_
                rintro e w9 ⟨rfl, rfl⟩
                have hl1 := hlow WA
                clear hCB hlow
                go_wp2_with fail
                refine hl1.mono ?_
                rintro e w10 ⟨rfl, hb10⟩
                have hK := OwnM.look (HA.out.2.1.below hb10) (WM.small (s.extract p q)) hsu
                have HB10 := Lib.hid hb10
                clear hl1 hb10
                go_wp2_with fail
                go_meet
                exact ⟨by rw [HLB.out]; simp, HB10.out⟩
              · go_wp2_with fail
                refine hCB.mono ?_
                rintro e w9 ⟨rfl, rfl⟩
                clear hCB hlow
                go_wp2_with fail
                go_meet
                exact ⟨by rw [HLB.out]; simp, Below.refl _ _⟩
            · have hd4 : decide (4 ≤ (q : Int) - (p : Int)) = false := decide_eq_false h4
              have HLB : Hid (leakB HS M ((p : Int), (q : Int), WM.small (s.extract p q)) = false) := Lib.hid (by unfold leakB; dsimp only; rw [hd4, Bool.false_and])
              clear hWAx
              go_wp2_with fail
              go_meet
              exact ⟨by rw [HLB.out], Below.refl _ _⟩
          case rest =>
            obtain ⟨hs0, hwc⟩ := hcut
            subst hs0
            have f0 := (hwc.cell (p := ⟨wo.heap.size, 0, none⟩) hwA).trans (HE.out.cell 0)
            have f1 := (hwc.cell (p := ⟨wo.heap.size, 1, none⟩) hwA).trans (HE.out.cell 1)
            simp only [List.getElem?_toArray, List.getElem?_cons_succ, List.getElem?_cons_zero] at f0 f1
            have H9 := Lib.hid (And.intro (HA.out.1.below hwc) (And.intro (HA.out.2.1.below hwc) (And.intro (HA.out.2.2.1.below hwc HA.out.2.2.1.lt) (And.intro (HA.out.2.2.2.1.below hwc) (HA.out.2.2.2.2.trans (hwc.mono HA.out.2.2.2.2.size))))))
            have hB9 : w7.heap.size ≤ wc.heap.size := Nat.le_trans hBo (Nat.le_trans (Nat.le_of_lt hwA) hwc.size)
            obtain ⟨bb, hbb⟩ : ∃ bb, leakB HS M ((p : Int), (q : Int), WM.small (s.extract p q)) = bb := ⟨_, rfl⟩
            rw [hbb] at HTK ⊢
            clear hwc hbb d1 d2 d3 d4 hWA
            cases bb
            · have HN : Hid (leaksL HS M ((R.take (k + 1)).map (WM.wordAt (WM.small s))) = leaksL HS M ((R.take k).map (WM.wordAt (WM.small s)))) := Lib.hid (by rw [HTK.out]; simp)
              go_wp2_with fail
              exact ⟨⟨k + 1, by simp, by omega, hB9, Lib.hid (by rw [HN.out]; exact H9.out.1), Lib.hid H9.out.2.1, Lib.hid H9.out.2.2.1, Lib.hid H9.out.2.2.2.1, H9.out.2.2.2.2⟩, by simp [intOf]; omega⟩
            · have HN : Hid (leaksL HS M ((R.take (k + 1)).map (WM.wordAt (WM.small s))) = leaksL HS M ((R.take k).map (WM.wordAt (WM.small s))) ++ [((p : Int), (q : Int))]) := Lib.hid (by rw [HTK.out]; simp)
              have HL9 := Lib.hid (show (leaksL HS M ((R.take k).map (WM.wordAt (WM.small s)))).length ≤ 1000000000000 by
                unfold leaksL
                rw [List.length_map]
                have h1 := List.length_filter_le (leakB HS M) ((R.take k).map (WM.wordAt (WM.small s)))
                have h2 : ((R.take k).map (WM.wordAt (WM.small s))).length ≤ R.length := by rw [List.length_map, List.length_take]; omega
                omega)
              have hs9 : w.heap.size ≤ wc.heap.size := H9.out.2.2.2.2.size
              obtain ⟨Ao, co, rfl, -, -⟩ := HR.out.form
              go_wp2_with (at_builtin; refine app_sp _ rfl (.tmp 94) (.tmp 96) rfl w7.heap.size _ _ rfl (H9.out.1.alloc _) _ p q rfl ?_ (lits_sp _ p q _) HL9.out ?d2; intro v5 w5 ho5 hg5; have HO5 := Lib.hid (And.intro ho5 hg5); clear ho5 hg5)
              case d2 => first | omega | (simp; omega)
              have hbl : ∀ q, (Value.slice Ao (leaksL HS M ((R.take k).map (WM.wordAt (WM.small s)))).length co).ownBlock = some q → w7.heap.size ≤ q := fun q hq => HR.out.base_le q hq
              have hb5 : Below wc.heap.size wc (wc.alloc (.cells #[.int .i64 p, .int .i64 q] 41)) := (Below.refl _ _).alloc (Nat.le_refl _) _
              have hl7 := HLT.out
              exact ⟨⟨k + 1, by simp, by omega, Nat.le_trans hB9 (Nat.le_trans hb5.size HO5.out.2.size), Lib.hid (by rw [HN.out]; exact HO5.out.1), Lib.hid ((H9.out.2.1.below hb5).grown HO5.out.2 (fun e => by have := hbl _ e.symm; omega)), Lib.hid (Bits.kept2 (H9.out.2.2.1.below hb5 H9.out.2.2.1.lt) HO5.out.2 (fun e => by have := hbl _ e; omega)), Lib.hid ((H9.out.2.2.2.1.below hb5).grown HO5.out.2 (fun q hq e => by have := hbl _ e; have := hl7.1 q hq; omega)), (H9.out.2.2.2.2.alloc hs9 _).grown HO5.out.2 (by simp; omega) (fun q hq => by have := hbl q hq; have := HB7.out.size; omega)⟩, by simp [intOf]; omega⟩
        · obtain rfl : k = R.length := by omega
          have hR := HR.out
          rw [List.take_length] at hR
          have hBn := boundedR_any hR
          have HB := Lib.hid hbw
          obtain ⟨A9, c9, rfl, -, -⟩ := hR.form
          clear hR hbw
          go_wp2_with fail
          refine hBn.mono ?_
          rintro e w9 ⟨v9, rfl, ho9, rfl⟩
          have HO9 := Lib.hid ho9
          obtain ⟨A10, c10, rfl, -, -⟩ := ho9.form
          clear hBn ho9
          go_wp2_with fail
          go_ret2
          exact ⟨_, rfl, HO9.out.less HB7.out.size, HB.out⟩
end Go.Proofs.YtdmgfkgfcofmhaaDoor
