/- Contract of privilege.Leaks at a right text and right spans. -/
import Derived.Test.YtdmgfkgfcofmhaaDoorCvM
import Derived.Test.YtdmgfkgfcofmhaaDoorWords
import Derived.Test.YtdmgfkgfcofmhaaDoorMapB
import Derived.Test.YtdmgfkgfcofmhaaDoorInL
import Derived.Test.YtdmgfkgfcofmhaaDoorQwM
import Derived.Maps.OwnOps
namespace WM
theorem fieldsL_len (q : UInt8 → Bool) : ∀ (l cur : List UInt8), (fieldsL q l cur).length ≤ l.length + 1
  | [], cur => by cases cur <;> simp [fieldsL]
  | b :: t, cur => by
    unfold fieldsL
    split
    · have := fieldsL_len q t (cur ++ [b]); simp; omega
    · split
      · have := fieldsL_len q t []; simp; omega
      · have := fieldsL_len q t []; simp; omega
theorem words_len (s : ByteArray) : (words s).length ≤ s.size + 1 := by
  have h := congrArg List.length (runs_list wordB s)
  rw [List.length_map] at h
  have h2 := fieldsL_len wordB s.data.toList []
  unfold words
  rw [List.length_map, h]
  simpa using h2
theorem words_small {s x : ByteArray} (h : x ∈ words s) : x.size ≤ s.size := by
  unfold words at h
  obtain ⟨y, _, rfl⟩ := List.mem_map.1 h
  rw [small_size, ByteArray.size_extract]
  omega
/-- the words of what spans cover -/
def hid (s : ByteArray) (L : List (Int × Int)) : List ByteArray := L.flatMap fun x => words (s.extract x.1.toNat x.2.toNat)
end WM
namespace Go.Proofs.YtdmgfkgfcofmhaaDoor
open Go.RowKit Go.Maps

/-- is a word seen that is covered elsewhere? -/
def leakB (H : List ByteArray) (M : List (Int × Int)) (x : Int × Int × ByteArray) : Bool := decide (4 ≤ x.2.1 - x.1) && (hasM H x.2.2 && !(M.any (inT x.1 x.2.1)))
def leaksL (H : List ByteArray) (M : List (Int × Int)) (W : List (Int × Int × ByteArray)) : List (Int × Int) := (W.filter (leakB H M)).map fun x => (x.1, x.2.1)
def L3Rel (w : World) (H : List ByteArray) (M : List (Int × Int)) (W : List (Int × Int × ByteArray)) (mb n B B7 Bo : Nat) (v v7 o i : Value) (wr : World) : Prop := ∃ k : Nat, i = .int .i64 k ∧ k ≤ W.length ∧ Bo ≤ wr.heap.size ∧ Hid (OwnI wr Bo o (leaksL H M (W.take k))) ∧ Hid (OwnM wr mb n H) ∧ Hid (OwnI wr B v M) ∧ Hid (OwnW wr B7 v7 W) ∧ Below w.heap.size w wr
def LkRel (w : World) (s : ByteArray) (M : List (Int × Int)) (mb B : Nat) (v i : Value) (wr : World) : Prop := ∃ k n : Nat, i = .int .i64 k ∧ k ≤ M.length ∧ n ≤ k * 30000 ∧ Hid (OwnM wr mb n (WM.hid s (M.take k))) ∧ Hid (OwnI wr B v M) ∧ Below w.heap.size w wr
def LkIn (w : World) (s : ByteArray) (M : List (Int × Int)) (P : List ByteArray) (mb B B2 n k : Nat) (v v2 i : Value) (wr : World) : Prop := ∃ j : Nat, i = .int .i64 j ∧ j ≤ P.length ∧ Hid (OwnM wr mb (n + j) (WM.hid s (M.take k) ++ P.take j)) ∧ Hid (OwnI wr B v M) ∧ Hid (OwnS wr B2 v2 P) ∧ Below w.heap.size w wr
set_option maxHeartbeats 16000000 in
set_option maxRecDepth 100000 in
theorem Leaks_ok {w : World} {b : Nat} {v : Value} {L : List (Int × Int)} (h : OwnI w b v L) (s : ByteArray) (hB : TB.bodyC s = 0) (hLf : WM.spFault s.size L = 0) (hT : LibV w) :
    Calls Tryd.prog 9 #[.string s, v] w (SpSays (WM.bList (leaksL (WM.hid s (L.map (PT.st s.data.toList))) (L.map (PT.st s.data.toList)) (WM.qwords s))) (WM.bCode (leaksL (WM.hid s (L.map (PT.st s.data.toList))) (L.map (PT.st s.data.toList)) (WM.qwords s))) w) := by
  have hs := (PT.body_valid hB).1
  have hlen : s.data.toList.length = s.size := by simp
  have hF := WM.spFault_ok hLf
  have hL : ∀ x, x ∈ L → 0 ≤ x.1 ∧ x.1 < x.2 ∧ x.2 ≤ s.size := fun x hx => by
    have := hF.2.2.2.2 x hx
    have h2 := WM.sep_ne hF.2.2.2.1 x hx
    omega
  have hC := checkCovered_ok h s hB hLf hT
  have hin := PT.st_in (l := s.data.toList) (L := L) (by rw [hlen]; exact hL)
  obtain ⟨M, hM⟩ : ∃ M, L.map (PT.st s.data.toList) = M := ⟨_, rfl⟩
  have hMl : M.length ≤ 1000 := by rw [← hM, List.length_map]; exact hF.2.2.1
  have H := Lib.hid h
  have hP := fun W (hw : Below w.heap.size w W) => pointsWhole_any (H.out.below hw) (by have := hF.2.2.1; omega) (by omega) hL (PT.body_head hB)
  rw [hM] at hP hin ⊢
  have HIN := Lib.hid hin
  have hmm := @run_makeMap Tryd.prog
  clear h hB hLf hT hF hL hM hin
  go_enter Tryd.func9, Tryd.ntmps9
  go_wp2_with fail
  refine hC.mono ?_
  rintro e w1 ⟨rfl, hb1⟩
  have hP1 := hP w1 hb1
  have HB1 := Lib.hid hb1
  clear hC hb1 hP
  go_wp2_with fail
  refine hP1.mono ?_
  rintro e w2 ⟨v2, rfl, ho2, hb2⟩
  have HB2 := Lib.hid (HB1.out.trans (hb2.mono HB1.out.size))
  have HO2 := Lib.hid ho2
  obtain ⟨A, cap, rfl, -, hf2⟩ := ho2.form
  have hAg : 0 < M.length → ∃ g2, A = some ⟨g2, 0, none⟩ ∧ g2 < w2.heap.size := fun h => by obtain ⟨g, e, _, h2, _⟩ := hf2 h; exact ⟨g, e, h2⟩
  have hsz2 := HB2.out.size
  clear hP1 ho2 hb2 hf2
  go_wp2_with fail
  go_loopw [29] (fun i wr => LkRel w s M w2.heap.size w1.heap.size (.slice A M.length cap) i wr) (fun i _ => M.length - (intOf i).toNat)
  case atStart => exact ⟨0, 0, rfl, Nat.zero_le _, Nat.zero_le _, Lib.hid (OwnM.made w2), Lib.hid (HO2.out.alloc _), HB2.out.alloc hsz2 _⟩
  case round =>
    obtain ⟨k, n, rfl, hk, hn, HM, HO, hbw⟩ := hrel
    by_cases hlt : k < M.length
    · obtain ⟨g2, rfl, hg2⟩ := hAg (by omega)
      have hx := List.getElem?_eq_getElem hlt
      have hm := HIN.out _ (List.getElem_mem hlt)
      generalize M[k] = x at hx hm
      obtain ⟨p, q⟩ := x
      dsimp only at hm
      rw [hlen] at hm
      obtain ⟨P, rfl⟩ := Int.eq_ofNat_of_zero_le hm.1
      obtain ⟨Q, rfl⟩ := Int.eq_ofNat_of_zero_le (show 0 ≤ q by omega)
      obtain ⟨c1, c2, c3, c4⟩ := HO.out.atK hx
      have i1 : (P : Int) ≤ (Q : Int) := by omega
      have i2 : (Q : Int) ≤ (s.size : Int) := by omega
      have HX := Lib.hid hx
      have HB := Lib.hid hbw
      have hsw := hbw.size
      obtain ⟨wo, hwo⟩ : ∃ wo : World, wo = wr := ⟨_, rfl⟩
      subst hwo
      have hE := (Blk.new wo 41 #[.int .i64 P, .int .i64 Q])
      have e0 := hE.cell 0
      have e1 := hE.cell 1
      simp at e0 e1
      have hW := Words_any (s.extract P Q) (by rw [ByteArray.size_extract]; omega) (wo.alloc (.cells #[.int .i64 P, .int .i64 Q] 41))
      clear hx hbw hE hAg hm
      go_wp2_with fail
      refine hW.mono ?_
      rintro e w5 ⟨v5, rfl, ho5, hb5⟩
      have hsx : (s.extract P Q).size ≤ 20000 := by rw [ByteArray.size_extract]; omega
      have hPl := WM.words_len (s.extract P Q)
      have hPs : ∀ x, x ∈ WM.words (s.extract P Q) → x.size ≤ 20000 := fun x hx => Nat.le_trans (WM.words_small hx) hsx
      have HH : Hid (WM.hid s (M.take (k + 1)) = WM.hid s (M.take k) ++ WM.words (s.extract P Q)) := Lib.hid (by
        unfold WM.hid
        rw [List.take_add_one, HX.out, List.flatMap_append]
        simp)
      generalize WM.words (s.extract P Q) = PL at *
      have hb0 : Below wo.heap.size wo (wo.alloc (.cells #[.int .i64 P, .int .i64 Q] 41)) := (Below.refl _ _).alloc (Nat.le_refl _) _
      have HM5 := Lib.hid ((HM.out.below hb0).below hb5)
      have HO5 := Lib.hid ((HO.out.alloc (.cells #[.int .i64 P, .int .i64 Q] 41)).below hb5)
      have HB5 := Lib.hid ((HB.out.alloc hsw (.cells #[.int .i64 P, .int .i64 Q] 41)).trans (hb5.mono (by simp; omega)))
      have HS5 : Hid (OwnS w5 (wo.heap.size + 1) v5 PL) := Lib.hid (by have := ho5; simpa using this)
      have HPS := Lib.hid hPs
      obtain ⟨A5, c5, rfl, -⟩ := ho5.form
      have hml := HM.out.lt
      have hPl2 : PL.length ≤ 20001 := by omega
      clear hW ho5 hb5 hb0 hPs hPl hsx e0 e1
      go_wp2_with fail
      go_loopw [41] (fun i wr => LkIn w s M PL w2.heap.size w1.heap.size (wo.heap.size + 1) n k (.slice (some ⟨g2, 0, none⟩) M.length cap) (.slice A5 PL.length c5) i wr) (fun i _ => PL.length - (intOf i).toNat)
      case atStart => exact ⟨0, rfl, Nat.zero_le _, Lib.hid (by simpa using HM5.out), HO5, HS5, HB5.out⟩
      case round =>
        obtain ⟨j, rfl, hj, HMj, HOj, HSj, hbj⟩ := hrel
        by_cases hjl : j < PL.length
        · obtain ⟨A6, c6, e6, hf6⟩ := HSj.out.form
          injection e6 with e6 _ e8
          subst e6
          subst e8
          obtain ⟨g6, rfl, h61, h62, hcs⟩ := hf6 (by omega)
          have hx6 := List.getElem?_eq_getElem hjl
          have hm6 := HPS.out _ (List.getElem_mem hjl)
          generalize PL[j] = x6 at hx6 hm6
          have hc6 := hcs j x6 hx6
          have HT6 : Hid (PL.take (j + 1) = PL.take j ++ [x6]) := Lib.hid (by rw [List.take_add_one, hx6]; rfl)
          obtain ⟨D, hown, hI, h3⟩ := HMj.out
          have hkey := WideMaps.keyOf_string_mk (P := Tryd.prog) (k := 9) Tryd.underlying9 (s := x6) (by unfold maxLen; omega)
          have HI := Lib.hid (And.intro hI h3)
          have HBJ := Lib.hid hbj
          clear hx6 hcs hf6 hI h3 hbj
          go_wp2_with (at_mapUpdate; refine wpList_mapUpdate_own _ rfl _ _ _ 55 rfl 9 4 lawM Tryd.underlying55 _ w2.heap.size (n + j) D rfl hown (by unfold maxLen; omega) _ _ _ rfl rfl hkey _ [] (plainElem_bool Tryd.underlying4 true) ?_; intro w6 hown6 hg6; have H6 := Lib.hid (And.intro hown6 hg6); clear hown6 hg6)
          exact ⟨⟨j + 1, by simp, by omega, Lib.hid (by have := OwnM.put HI.out.1 HI.out.2 x6 H6.out.1; rw [HT6.out, ← List.append_assoc]; exact this), Lib.hid (HOj.out.grown H6.out.2 (fun q hq e => by simp [Value.ownBlock] at hq; injection e; omega)), Lib.hid (HSj.out.grown H6.out.2 (fun q hq e => by have := HSj.out.base_le q hq; injection e; omega)), HBJ.out.grown H6.out.2 HBJ.out.size (fun q hq => by injection hq; omega)⟩, by simp [intOf]; omega⟩
        · obtain rfl : j = PL.length := by omega
          have HMF := Lib.hid (show OwnM wr w2.heap.size (n + PL.length) (WM.hid s (M.take (k + 1))) by rw [HH.out]; have := HMj.out; rwa [List.take_length] at this)
          have HBF := Lib.hid hbj
          clear hbj
          go_wp2_with fail
          exact ⟨⟨k + 1, n + PL.length, by simp, by omega, by omega, HMF, HOj, HBF.out⟩, by simp [intOf]; omega⟩
    · obtain rfl : k = M.length := by omega
      have HMF := Lib.hid (show OwnM wr w2.heap.size n (WM.hid s M) by have := HM.out; rwa [List.take_length] at this)
      have HBF := Lib.hid hbw
      clear hbw hAg
      have hQ := QWords_any s (by omega) wr
      go_wp2_with fail
      refine hQ.mono ?_
      rintro e w7 ⟨v7, rfl, ho7, hb7⟩
      have HM7 := Lib.hid (HMF.out.below hb7)
      have HB7 := Lib.hid (HBF.out.trans (hb7.mono HBF.out.size))
      have HO7 := Lib.hid (HO.out.below hb7)
      have HW7 := Lib.hid ho7
      obtain ⟨A7, c7, rfl, -⟩ := ho7.form
      clear hQ hb7 ho7
      go_wp2_with fail
      have hWB : ∀ x, x ∈ WM.qwords s → (0 ≤ x.1 ∧ x.1 ≤ 1000000) ∧ (0 ≤ x.2.1 ∧ x.2.1 ≤ 1000000) ∧ x.2.2.size ≤ 20000 := fun x hx => by
        unfold WM.qwords at hx
        obtain ⟨y, hy, rfl⟩ := List.mem_map.1 hx
        rw [← hlen] at hy
        have := (WM.qw_words s.data.toList).1 y hy
        have h1 := this.1
        have h2 := this.2.1
        simp only [WM.wordAt]
        refine ⟨by omega, by omega, ?_⟩
        rw [ByteArray.size_extract, WM.small_size]
        omega
      have hWl : (WM.qwords s).length ≤ 1000000 := by
        unfold WM.qwords
        rw [List.length_map]
        have := (WM.qw_le s.data.toList (s.size + 1)).2
        omega
      generalize WM.qwords s = W at *
      generalize WM.hid s M = HS at *
      have HWB := Lib.hid hWB
      have HLT := Lib.hid (And.intro (fun q hq => (HO7.out.lt q hq).2) (And.intro (fun q hq => (World.ownsRow.lt HW7.out q hq).2) HM7.out.lt))
      clear hWB
      go_loopw [13, 52] (fun o i wr2 => L3Rel w HS M W w2.heap.size n w1.heap.size wr.heap.size w7.heap.size (.slice A M.length cap) (.slice A7 W.length c7) o i wr2) (fun _ i _ => W.length - (intOf i).toNat)
      case atStart => exact ⟨0, rfl, Nat.zero_le _, Nat.le_refl _, Lib.hid (OwnI.nil _ _), HM7, HO7, HW7, HB7.out⟩
      case round =>
        obtain ⟨k, rfl, hk, hBo, HR, HMr, HOr, HWr, hbw⟩ := hrel
        by_cases hlt : k < W.length
        · obtain ⟨A8, c8, e8, -, hf8⟩ := HWr.out.form
          injection e8 with e8 _ e9
          subst e8
          subst e9
          obtain ⟨g8, rfl, h81, h82, hfz8, hcs⟩ := hf8 (by omega)
          have hx := List.getElem?_eq_getElem hlt
          have hm := HWB.out _ (List.getElem_mem hlt)
          generalize W[k] = x at hx hm
          obtain ⟨p, q, u⟩ := x
          obtain ⟨c1, c2, c3⟩ := hcs k _ hx
          dsimp only at hm c1 c2 c3
          have HX := Lib.hid hx
          have HB := Lib.hid hbw
          have hsw := hbw.size
          have hE := (Blk.new wr 59 #[.int .i64 p, .int .i64 q, .string u])
          have e0 := hE.cell 0
          have e1 := hE.cell 1
          have e2 := hE.cell 2
          simp at e0 e1 e2
          have HE := Lib.hid hE
          have HTK : Hid (leaksL HS M (W.take (k + 1)) = leaksL HS M (W.take k) ++ if leakB HS M (p, q, u) then [(p, q)] else []) := Lib.hid (by
            unfold leaksL
            rw [List.take_add_one, HX.out, List.filter_append, List.map_append]
            congr 1
            simp only [Option.toList, List.filter_cons, List.filter_nil]
            split <;> rfl)
          have hK := fun W' (hb : Below wr.heap.size wr W') => OwnM.look (HMr.out.below hb) u (by unfold maxLen; omega)
          have hK0 := hK _ ((Below.refl wr.heap.size wr).alloc (Nat.le_refl _) (.cells #[.int .i64 p, .int .i64 q, .string u] 59))
          have HA := Lib.hid (And.intro (HR.out.alloc (.cells #[.int .i64 p, .int .i64 q, .string u] 59)) (And.intro (HMr.out.below ((Below.refl wr.heap.size wr).alloc (Nat.le_refl _) (.cells #[.int .i64 p, .int .i64 q, .string u] 59))) (And.intro (HOr.out.alloc (.cells #[.int .i64 p, .int .i64 q, .string u] 59)) (And.intro (HWr.out.alloc (.cells #[.int .i64 p, .int .i64 q, .string u] 59)) (HB.out.alloc hsw (.cells #[.int .i64 p, .int .i64 q, .string u] 59))))))
          have hW : IntKind.i64.wrap (q - p) = q - p := IntWalk.i64_in _ ⟨by omega, by omega⟩
          clear hx hcs hbw hf8 hE hK
          by_cases h4 : q - p < 4
          · have hd : decide (q - p < 4) = true := decide_eq_true h4
            have HN : Hid (leaksL HS M (W.take (k + 1)) = leaksL HS M (W.take k)) := Lib.hid (by rw [HTK.out]; unfold leakB; dsimp only; rw [decide_eq_false (by omega), Bool.false_and]; simp)
            go_wp2_with fail
            exact ⟨⟨k + 1, by simp, by omega, by simp; omega, Lib.hid (by rw [HN.out]; exact HA.out.1), Lib.hid HA.out.2.1, Lib.hid HA.out.2.2.1, Lib.hid HA.out.2.2.2.1, HA.out.2.2.2.2⟩, by simp [intOf]; omega⟩
          · have hd : decide (q - p < 4) = false := decide_eq_false h4
            have hd4 : decide (4 ≤ q - p) = true := decide_eq_true (by omega)
            cases hh : hasM HS u
            · rw [hh] at hK0
              have HN : Hid (leaksL HS M (W.take (k + 1)) = leaksL HS M (W.take k)) := Lib.hid (by rw [HTK.out]; unfold leakB; dsimp only; rw [hh, hd4]; simp)
              clear hh hd4
              go_wp2_with fail
              exact ⟨⟨k + 1, by simp, by omega, by simp; omega, Lib.hid (by rw [HN.out]; exact HA.out.1), Lib.hid HA.out.2.1, Lib.hid HA.out.2.2.1, Lib.hid HA.out.2.2.2.1, HA.out.2.2.2.2⟩, by simp [intOf]; omega⟩
            · rw [hh] at hK0
              obtain ⟨c, hc⟩ : ∃ c, M.any (inT p q) = c := ⟨_, rfl⟩
              have f0 := HE.out.cell 0
              have f1 := HE.out.cell 1
              have hCF := ContainsFuncL_any (bx := wr.heap.size) HA.out.2.2.1 (by omega) (by simp) f0 f1 c hc
              have HLB : Hid (leakB HS M (p, q, u) = !c) := Lib.hid (by unfold leakB; dsimp only; rw [hh, hd4, hc]; simp)
              clear hh hd4 hc f0 f1
              go_wp2_with fail
              refine hCF.mono ?_
              rintro e w9 ⟨rfl, hb9⟩
              have g0 := (hb9.cell (p := ⟨wr.heap.size, 0, none⟩) (by simp)).trans (HE.out.cell 0)
              have g1 := (hb9.cell (p := ⟨wr.heap.size, 1, none⟩) (by simp)).trans (HE.out.cell 1)
              simp at g0 g1
              have H9 := Lib.hid (And.intro (HA.out.1.below hb9) (And.intro (HA.out.2.1.below hb9) (And.intro (HA.out.2.2.1.below hb9) (And.intro (HA.out.2.2.2.1.below hb9) (HA.out.2.2.2.2.trans (hb9.mono HA.out.2.2.2.2.size))))))
              have hB9 : w7.heap.size ≤ w9.heap.size := Nat.le_trans hBo (Nat.le_trans (by simp) hb9.size)
              clear hCF hb9 hK0 e0 e1 e2 c1 c2 c3
              cases c
              · have HN : Hid (leaksL HS M (W.take (k + 1)) = leaksL HS M (W.take k) ++ [(p, q)]) := Lib.hid (by rw [HTK.out, HLB.out]; simp)
                have HL9 := Lib.hid (show (leaksL HS M (W.take k)).length ≤ 1000000000000 by
                  unfold leaksL
                  rw [List.length_map]
                  have h1 := List.length_filter_le (leakB HS M) (W.take k)
                  have h2 : (W.take k).length ≤ W.length := by rw [List.length_take]; omega
                  omega)
                have hs9 : w.heap.size ≤ w9.heap.size := H9.out.2.2.2.2.size
                obtain ⟨Ao, co, rfl, -, -⟩ := HR.out.form
                go_wp2_with (at_builtin; refine app_sp _ rfl (.tmp 76) (.tmp 79) rfl w7.heap.size _ _ rfl (H9.out.1.alloc _) _ p q rfl ?_ (lits_sp _ p q _) HL9.out ?d2; intro v5 w5 ho5 hg5; have HO5 := Lib.hid (And.intro ho5 hg5); clear ho5 hg5)
                case d2 => simp; omega
                have hbl : ∀ q, (Value.slice Ao (leaksL HS M (W.take k)).length co).ownBlock = some q → w7.heap.size ≤ q := fun q hq => HR.out.base_le q hq
                have hb5 : Below w9.heap.size w9 (w9.alloc (.cells #[.int .i64 p, .int .i64 q] 41)) := (Below.refl _ _).alloc (Nat.le_refl _) _
                exact ⟨⟨k + 1, by simp, by omega, Nat.le_trans hB9 (Nat.le_trans hb5.size HO5.out.2.size), Lib.hid (by rw [HN.out]; exact HO5.out.1), Lib.hid ((H9.out.2.1.below hb5).grown HO5.out.2 (fun e => by have := hbl _ e.symm; have := HLT.out.2.2; omega)), Lib.hid ((H9.out.2.2.1.below hb5).grown HO5.out.2 (fun q hq e => by have := hbl _ e; have := HLT.out.1 q hq; omega)), Lib.hid ((H9.out.2.2.2.1.below hb5).grown HO5.out.2 (fun q hq e => by have := hbl _ e; have := HLT.out.2.1 q hq; omega)), (H9.out.2.2.2.2.alloc hs9 _).grown HO5.out.2 (by simp; omega) (fun q hq => by have := hbl q hq; have := HB7.out.size; omega)⟩, by simp [intOf]; omega⟩
              · have HN : Hid (leaksL HS M (W.take (k + 1)) = leaksL HS M (W.take k)) := Lib.hid (by rw [HTK.out, HLB.out]; simp)
                go_wp2_with fail
                exact ⟨⟨k + 1, by simp, by omega, hB9, Lib.hid (by rw [HN.out]; exact H9.out.1), Lib.hid H9.out.2.1, Lib.hid H9.out.2.2.1, Lib.hid H9.out.2.2.2.1, H9.out.2.2.2.2⟩, by simp [intOf]; omega⟩
        · obtain rfl : k = W.length := by omega
          have hR := HR.out
          rw [List.take_length] at hR
          have hBn := bounded_any hR
          have HB := Lib.hid hbw
          obtain ⟨A9, c9, rfl, -, -⟩ := hR.form
          clear hR hbw
          go_wp2_with fail
          refine hBn.mono ?_
          rintro e w9 ⟨v9, rfl, ho9, rfl⟩
          have HO9 := Lib.hid ho9
          obtain ⟨A10, c10, rfl, -, -⟩ := ho9.form
          clear hBn ho9
          go_wp2_with fail
          go_ret2
          exact ⟨_, rfl, HO9.out.less HB7.out.size, HB.out⟩
end Go.Proofs.YtdmgfkgfcofmhaaDoor
