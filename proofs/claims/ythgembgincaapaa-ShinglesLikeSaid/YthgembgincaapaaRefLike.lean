/- Contracts of the reference's ShinglesOf, LikeOf, ContainmentOf, ShinglesFault. -/
import Derived.Test.YthgembgincaapaaRefSet
import Derived.Test.YthgembgincaapaaRefPart
import Derived.Test.YthgembgincaapaaWordsOf
import Derived.Test.YthgembgincaapaaMeas
namespace Go.Proofs.Ythgembgincaapaa
open Go.RowKit

def SoRel (w1 : World) (W : List ByteArray) (k : Nat) (l e : Value) (wr : World) : Prop := ∃ j : Nat, e = .int .i64 j ∧ j + k ≤ W.length + 1 ∧ OwnS wr w1.heap.size l ((List.range j).map (WM.win W k)) ∧ Below w1.heap.size w1 wr
set_option maxHeartbeats 2000000 in
theorem ShinglesOf_any (s : ByteArray) (hs : s.size ≤ 1000000000) (k : Nat) (hk1 : 1 ≤ k) (hk2 : k ≤ 1000000) (hwt : WM.wt (WM.words s) ≤ 1000000000) (w : World) :
    Calls Try.prog 13 #[.string s, .int .i64 k] w (RowNew (WM.shing (WM.words s) k) w) := by
  have hW := fun W => WordsOf_any s hs W
  have hlen := WM.wt_len (WM.words s)
  generalize WM.words s = W at *
  have HW := Lib.hid hwt
  clear hwt hs
  go_enter Try.func13, Try.ntmps13
  go_wp2_with fail
  refine (hW _).mono ?_
  rintro e w1 ⟨v, rfl, hown, hb1⟩
  clear hW
  obtain ⟨A, cap, rfl, hcap, hcap2, hf⟩ := hown.formC
  by_cases h0 : W = []
  · subst h0
    have hz : (([] : List ByteArray).length : Int) = 0 := rfl
    rw [show ([] : List ByteArray).length = 0 from rfl] at *
    clear hf
    go_wp2_with fail
    go_ret
    exact ⟨_, rfl, OwnS.nil _ _, hb1⟩
  · have hpos : 0 < W.length := List.length_pos_iff.2 h0
    have hz : ((W.length : Int) == 0) = false := beq_eq_false_iff_ne.2 (by omega)
    obtain ⟨g, rfl, hg1, hg2, hcs⟩ := hf hpos
    have HS := Lib.hid (show WM.shing W k = WM.compS (WM.sortS (WM.wins W (min k W.length))) by unfold WM.shing; rw [if_neg h0])
    have hmin : min (k : Int) (W.length : Int) = ((min k W.length : Nat) : Int) := by omega
    have hm1 : 1 ≤ min k W.length := by omega
    have hm2 : min k W.length ≤ W.length := by omega
    clear hf h0 hk1 hk2
    generalize min k W.length = m at *
    go_wp2_with fail
    clear hmin
    go_loopw [6, 22] (fun l e wr => SoRel w1 W m l e wr) (fun _ e _ => (W.length + 1 - (intOf e).toNat))
    case atStart => exact ⟨0, rfl, by omega, OwnS.nil _ _, Below.refl _ _⟩
    case round =>
      obtain ⟨j, rfl, hj, hown2, hbw⟩ := hrel
      have hsz := hbw.size
      have hll := HW.out
      have e1 : ((j : Int) + (m : Int)).toNat = j + m := by omega
      by_cases hlt : j + m ≤ W.length
      · have hlt2 : (j : Int) < (W.length : Int) - (m : Int) + 1 := by omega
        have hwn := WM.wt_mid W m j
        have hwl : ((W.drop j).take m).length = m := by simp; omega
        have hcw : ∀ (q : Nat) x, ((W.drop j).take m)[q]? = some x → wr.cell? ⟨g, j + q, none⟩ = some (.string x) := fun q x hx => by
          have hq : q < m := by have := (List.getElem?_eq_some_iff.1 hx).1; omega
          rw [List.getElem?_take_of_lt hq, List.getElem?_drop] at hx
          exact (hbw.cell (p := ⟨g, j + q, none⟩) hg2).trans (hcs _ x hx)
        have HJ := fun c (hc : ((W.drop j).take m).length ≤ c) => JoinS_any g j c ((W.drop j).take m) wr hcw (by omega) (by omega) hc
        rw [hwl] at HJ
        have HV := Lib.hid (show WM.joinB ((W.drop j).take m) = WM.win W m j from rfl)
        rw [HV.out] at HJ
        have HO := Lib.hid (And.intro hown2 hbw)
        have HL := Lib.hid (show ((List.range j).map (WM.win W m)).length + 1 ≤ 4000000000000 by simp; omega)
        have HR := Lib.hid (show (List.range (j + 1)).map (WM.win W m) = (List.range j).map (WM.win W m) ++ [WM.win W m j] by rw [List.range_succ, List.map_append]; rfl)
        clear hwn hwl hcw hown2 hbw HV hcs hown
        go_wp2_with fail
        refine (HJ _ ?_).mono ?_
        · omega
        rintro e w2 ⟨rfl, hb2⟩
        clear HJ
        have hb2s := hb2.size
        have HO2 := Lib.hid (And.intro (HO.out.1.below hb2 (Nat.le_refl _)) (HO.out.2.trans (hb2.mono hsz)))
        clear HO hb2
        go_wp2_with (at_builtin; refine app_strs _ rfl (.tmp 25) (.tmp 33) rfl w1.heap.size _ _ rfl (HO2.out.1.alloc _) _ 1 [WM.win W m j] rfl ?_ rfl (lits_cells _ [WM.win W m j] _) ?d1 ?d2; intro v3 w3 hown3 hg3)
        case d1 => exact HL.out
        case d2 => simp; omega
        go_wp2_with fail
        exact ⟨⟨j + 1, by simp, by omega, by rw [HR.out]; exact hown3, (HO2.out.2.alloc (by omega) _).grown hg3 (by simp; omega) (fun q hq => HO2.out.1.base_le q hq)⟩, by simp [intOf]; omega⟩
      · obtain rfl : j = W.length + 1 - m := by omega
        have HO := Lib.hid (And.intro hown2 hbw)
        have hwl : ((List.range (W.length + 1 - m)).map (WM.win W m)).length = W.length + 1 - m := by simp
        have HW2 := Lib.hid (show (List.range (W.length + 1 - m)).map (WM.win W m) = WM.wins W m from rfl)
        have hlt2 : ¬ ((W.length + 1 - m : Nat) : Int) < (W.length : Int) - (m : Int) + 1 := by omega
        rw [HW2.out] at hown2
        have hwn : (WM.wins W m).length = W.length + 1 - m := by rw [← HW2.out]; exact hwl
        have HS1 := sortedR_any hown2 (by rw [hwn]; omega)
        clear hwl hown2 hbw hcs hown hwn
        go_wp2_with fail
        refine HS1.mono ?_
        rintro e w2 ⟨v4, rfl, hown4, hb2⟩
        go_wp2_with fail
        go_ret
        exact ⟨v4, rfl, by rw [HS.out]; exact hown4.less (Nat.le_trans hb1.size hsz), hb1.trans ((HO.out.2.trans (hb2.mono hsz)).mono hb1.size)⟩
theorem ups_app_len {X Y : List ByteArray} (hX : WM.Asc (WM.bl X)) (hY : WM.Asc (WM.bl Y)) : (ups (X ++ Y)).length = X.length + Y.length - WM.cnt (WM.bl X) (WM.bl Y) := by
  have e : WM.bl (X ++ Y) = WM.bl X ++ WM.bl Y := by simp [WM.bl]
  have := WM.union_len hX.nodup hY.nodup (WM.ups_asc (WM.bl X ++ WM.bl Y)).nodup (fun x => by rw [WM.ups_mem]; simp)
  rw [← e, ← ups_bl, WM.bl_len, WM.bl_len, WM.bl_len] at this
  exact this
theorem ShinglesFault_any (s : ByteArray) (hs : s.size ≤ 20000) (k : Int) (b : Bool) (hb : (decide (1 ≤ k) && decide (k ≤ 10)) = b) (w : World) :
    Calls Try.prog 10 #[.string s, .int .i64 k] w fun e w' => e = .returned (.int .i64 (if b then 0 else 1)) ∧ w = w' := by
  by_cases h1 : k < 1
  · have : b = false := by rw [← hb]; simp; omega
    subst this
    have hd : decide (k < 1) = true := decide_eq_true h1
    clear hb h1
    go_enter Try.func10, Try.ntmps10
    go_wp2_with fail
    go_ret
    exact ⟨rfl, rfl⟩
  · have hd : decide (k < 1) = false := decide_eq_false h1
    by_cases h2 : 10 < k
    · have : b = false := by rw [← hb]; simp; omega
      subst this
      have hd2 : decide (10 < k) = true := decide_eq_true h2
      clear hb h1 h2
      go_enter Try.func10, Try.ntmps10
      go_wp2_with fail
      go_ret
      exact ⟨rfl, rfl⟩
    · have : b = true := by rw [← hb]; simp; omega
      subst this
      have hd2 : decide (10 < k) = false := decide_eq_false h2
      clear hb h1 h2
      go_enter Try.func10, Try.ntmps10
      go_wp2_with fail
      go_ret
      exact ⟨rfl, rfl⟩
set_option maxHeartbeats 4000000 in
theorem LikeOf_any (a b : ByteArray) (ha : a.size ≤ 20000) (hb : b.size ≤ 20000) (k : Nat) (hk1 : 1 ≤ k) (hk2 : k ≤ 10) (w : World) :
    Calls Try.prog 14 #[.string a, .string b, .int .i64 k] w (FracSays (WM.like (shs a k) (shs b k)) w) := by
  have hA := fun W => ShinglesOf_any a (by omega) k hk1 (by omega) (words_wt a (by omega)) W
  have hB := fun W => ShinglesOf_any b (by omega) k hk1 (by omega) (words_wt b (by omega)) W
  have lx := shs_len a k ha
  have ly := shs_len b k hb
  have sx := shs_asc a k
  have sy := shs_asc b k
  change ∀ W, Calls _ _ _ W (RowNew (shs a k) W) at hA
  change ∀ W, Calls _ _ _ W (RowNew (shs b k) W) at hB
  generalize shs a k = X at *
  generalize shs b k = Y at *
  have hu := ups_app_len sx sy
  have hc := WM.cnt_le (WM.bl X) (WM.bl Y)
  rw [WM.bl_len] at hc
  have HL := Lib.hid (show WM.like X Y = WM.frac (WM.cnt (WM.bl X) (WM.bl Y)) (ups (X ++ Y)).length by rw [hu]; rfl)
  rw [HL.out]
  have HU := Lib.hid hu
  have HC := Lib.hid (And.intro hc (And.intro lx ly))
  clear hu hc hk1 hk2 ha hb lx ly HL
  go_enter Try.func14, Try.ntmps14
  go_wp2_with fail
  refine (hA _).mono ?_
  rintro e w1 ⟨v1, rfl, ho1, hb1⟩
  have hs1 := hb1.size
  simp at hs1
  clear hA
  go_wp2_with fail
  refine (hB _).mono ?_
  rintro e w2 ⟨v2, rfl, ho2, hb2⟩
  have hs2 := hb2.size
  have hc : Below w.heap.size w w2 := (((Below.refl _ _).alloc (Nat.le_refl _) _).trans (hb1.mono (by simp))).trans (hb2.mono (by omega))
  have ho1' := ho1.below hb2 (Nat.le_refl _)
  have hblk : Blk w2 w.heap.size 34 #[.int .i64 0, .int .i64 0] := ((Blk.new w 34 #[.int .i64 0, .int .i64 0]).below hb1 (by simp)).below hb2 (by omega)
  obtain ⟨A1, c1, rfl, _⟩ := ho1'.form
  obtain ⟨A2, c2, rfl, _⟩ := ho2.form
  have HO := Lib.hid (And.intro ho1' (And.intro ho2 (And.intro hc hblk)))
  have HS := sharedR_any ho1' ho2 sy (by have := HC.out.2.1; omega) (by have := HC.out.2.2; omega)
  clear hB ho1 ho1' ho2 hb1 hb2 hc hblk sx sy
  generalize WM.cnt (WM.bl X) (WM.bl Y) = c at *
  go_wp2_with fail
  refine HS.mono ?_
  rintro e w3 ⟨rfl, q, rfl⟩
  clear HS
  have hCC := Concat_any (X := X) (Y := Y) (b := w2.heap.size) ((w2.drewN q).alloc (.cells #[.slice A1 X.length c1, .slice A2 Y.length c2] 29)) ((HO.out.1.drewN q).alloc _) ((HO.out.2.1.drewN q).alloc _)
    ((cell_of_row _ _ 0 _ _ _ (heap_alloc_new (w2.drewN q) _)).trans rfl) ((cell_of_row _ _ 1 _ _ _ (heap_alloc_new (w2.drewN q) _)).trans rfl) (by simp) (by have := HC.out.2.1; have := HC.out.2.2; omega)
  go_wp2_with fail
  refine hCC.mono ?_
  rintro e w4 ⟨v4, rfl, ho4, hb4⟩
  clear hCC
  have hs4 := hb4.size
  simp at hs4
  have hc4 : Below w.heap.size w w4 := ((below_drewN HO.out.2.2.1 q).alloc HO.out.2.2.1.size _).trans (hb4.mono (by have := HO.out.2.2.1.size; simp; omega))
  have hblk4 : Blk w4 w.heap.size 34 #[.int .i64 0, .int .i64 0] := ((HO.out.2.2.2.drewN q).alloc _).below hb4 (by have := HO.out.2.2.2.lt; simp; omega)
  have hSR := sortedR_any ho4 (by have := HC.out.2.1; have := HC.out.2.2; simp; omega)
  have H4 := Lib.hid (And.intro hc4 hblk4)
  clear ho4 hb4 hc4 hblk4 hs4
  go_wp2_with fail
  refine hSR.mono ?_
  rintro e w5 ⟨v5, rfl, ho5, hb5⟩
  obtain ⟨A5, c5, rfl, _⟩ := ho5.form
  have hc5 : Below w.heap.size w w5 := H4.out.1.trans (hb5.mono H4.out.1.size)
  have hblk5 := H4.out.2.below hb5 H4.out.2.lt
  have H5 := Lib.hid (And.intro hc5 hblk5)
  have hP := partR_any c (ups (X ++ Y)).length (by have := HC.out.1; have := HC.out.2.1; omega) (by have := HU.out; have := HC.out.2.1; have := HC.out.2.2; omega)
  clear hSR ho5 hb5 hc5 hblk5
  generalize (ups (X ++ Y)).length = u at *
  go_wp2_with fail
  refine (hP _).mono ?_
  rintro e w6 ⟨rfl, hb6⟩
  clear hP
  have hblk6 := H5.out.2.below hb6 H5.out.2.lt
  have hd0 := hblk6.cell 0
  have hd1 := hblk6.cell 1
  have hf0 := hblk6.frozen 0
  have hf1 := hblk6.frozen 1
  have hlt := hblk6.lt
  simp at hd0 hd1
  have H6 := Lib.hid (H5.out.1.trans (hb6.mono H5.out.1.size))
  clear hblk6 hb6
  generalize WM.frac c u = p at *
  unfold fracV
  go_wp2_with fail
  refine bodyPost_ret (v := .agg #[.int .i64 p.1, .int .i64 p.2]) (by simp [results, Try.results14, go_sem, hd0, hd1]) rfl ⟨rfl, ?_⟩
  exact (H6.out.setCell (p := ⟨w.heap.size, 0, none⟩) (Nat.le_refl _) _).setCell (p := ⟨w.heap.size, 1, none⟩) (Nat.le_refl _) _
set_option maxHeartbeats 4000000 in
theorem ContainmentOf_any (a b : ByteArray) (ha : a.size ≤ 20000) (hb : b.size ≤ 20000) (k : Nat) (hk1 : 1 ≤ k) (hk2 : k ≤ 10) (w : World) :
    Calls Try.prog 15 #[.string a, .string b, .int .i64 k] w (FracSays (WM.cont (shs a k) (shs b k)) w) := by
  have hA := fun W => ShinglesOf_any a (by omega) k hk1 (by omega) (words_wt a (by omega)) W
  have hB := fun W => ShinglesOf_any b (by omega) k hk1 (by omega) (words_wt b (by omega)) W
  have lx := shs_len a k ha
  have ly := shs_len b k hb
  have sx := shs_asc a k
  have sy := shs_asc b k
  change ∀ W, Calls _ _ _ W (RowNew (shs a k) W) at hA
  change ∀ W, Calls _ _ _ W (RowNew (shs b k) W) at hB
  generalize shs a k = X at *
  generalize shs b k = Y at *
  have hc := WM.cnt_le (WM.bl X) (WM.bl Y)
  rw [WM.bl_len] at hc
  have HL := Lib.hid (show WM.cont X Y = WM.frac (WM.cnt (WM.bl X) (WM.bl Y)) X.length from rfl)
  rw [HL.out]
  have HC := Lib.hid (And.intro hc (And.intro lx ly))
  clear hc hk1 hk2 ha hb lx ly HL
  go_enter Try.func15, Try.ntmps15
  go_wp2_with fail
  refine (hA _).mono ?_
  rintro e w1 ⟨v1, rfl, ho1, hb1⟩
  have hs1 := hb1.size
  simp at hs1
  clear hA
  go_wp2_with fail
  refine (hB _).mono ?_
  rintro e w2 ⟨v2, rfl, ho2, hb2⟩
  have hs2 := hb2.size
  have hc : Below w.heap.size w w2 := (((Below.refl _ _).alloc (Nat.le_refl _) _).trans (hb1.mono (by simp))).trans (hb2.mono (by omega))
  have ho1' := ho1.below hb2 (Nat.le_refl _)
  have hblk : Blk w2 w.heap.size 34 #[.int .i64 0, .int .i64 0] := ((Blk.new w 34 #[.int .i64 0, .int .i64 0]).below hb1 (by simp)).below hb2 (by omega)
  obtain ⟨A1, c1, rfl, _⟩ := ho1'.form
  obtain ⟨A2, c2, rfl, _⟩ := ho2.form
  have HO := Lib.hid (And.intro ho1' (And.intro ho2 (And.intro hc hblk)))
  have HS := sharedR_any ho1' ho2 sy (by have := HC.out.2.1; omega) (by have := HC.out.2.2; omega)
  clear hB ho1 ho1' ho2 hb1 hb2 hc hblk sx sy
  generalize WM.cnt (WM.bl X) (WM.bl Y) = c at *
  go_wp2_with fail
  refine HS.mono ?_
  rintro e w3 ⟨rfl, q, rfl⟩
  clear HS
  have hc5 : Below w.heap.size w (w2.drewN q) := below_drewN HO.out.2.2.1 q
  have H5 := Lib.hid (And.intro hc5 (HO.out.2.2.2.drewN q))
  have hP := partR_any c X.length (by have := HC.out.1; have := HC.out.2.1; omega) (by have := HC.out.2.1; omega)
  clear hc5
  go_wp2_with fail
  refine (hP _).mono ?_
  rintro e w6 ⟨rfl, hb6⟩
  clear hP
  have hblk6 := H5.out.2.below hb6 H5.out.2.lt
  have hd0 := hblk6.cell 0
  have hd1 := hblk6.cell 1
  have hf0 := hblk6.frozen 0
  have hf1 := hblk6.frozen 1
  have hlt := hblk6.lt
  simp at hd0 hd1
  have H6 := Lib.hid (H5.out.1.trans (hb6.mono H5.out.1.size))
  clear hblk6 hb6
  generalize WM.frac c X.length = p at *
  unfold fracV
  go_wp2_with fail
  refine bodyPost_ret (v := .agg #[.int .i64 p.1, .int .i64 p.2]) (by simp [results, Try.results15, go_sem, hd0, hd1]) rfl ⟨rfl, ?_⟩
  exact (H6.out.setCell (p := ⟨w.heap.size, 0, none⟩) (Nat.le_refl _) _).setCell (p := ⟨w.heap.size, 1, none⟩) (Nat.le_refl _) _
end Go.Proofs.Ythgembgincaapaa
