/- Contracts of the makers Memo and One. -/
import Derived.Test.YtflilepmhidndaaDoorOne0
import Derived.Test.YtflilepmhidndaaDoorBlk
import Derived.Test.YtflilepmhidndaaDoorFlip
import Derived.Test.YtflilepmhidndaaDoorLay105
import Derived.Test.YtflilepmhidndaaDoorExtra
import Derived.Shelf.Strings.Repeat
namespace Go.Proofs.YtflilepmhidndaaDoor
open Go.RowKit

/-- 20000 letters m -/
noncomputable def manyM : ByteArray := ⟨(Lib.repeatL [109] 20000).toArray⟩
theorem manyM_size : manyM.size = 20000 := by
  show (Lib.repeatL [109] 20000).toArray.size = 20000
  rw [List.size_toArray, Lib.repeatL_length]
  rfl
theorem Repeat_m (w : World) : Calls Tryd.prog 17 #[.string ⟨#[109]⟩, .int .i64 20000] w fun e w' => e = .returned (.string manyM) ∧ Below w.heap.size w w' :=
  Any.strings_Repeat Tryd.lays105 (Tryd.extra _ rfl rfl) ⟨#[109]⟩ 20000 w (by omega) (by show 1 * 20000 ≤ _; omega)
noncomputable def oddV : List Value := [.string ⟨#[97, 9, 98, 10]⟩, .string ⟨#[255, 10]⟩, .string (manyM ++ ⟨#[10]⟩)]
theorem oddV_ok : oddV.all (strV 20001) = true := by
  have h : (manyM ++ (⟨#[10]⟩ : ByteArray)).size ≤ 20001 := by
    have e1 : (⟨#[10]⟩ : ByteArray).size = 1 := rfl
    rw [ByteArray.size_append, manyM_size, e1]
    omega
  have hs : ∀ u : ByteArray, u.size ≤ 20001 → strV 20001 (.string u) = true := fun u hu => decide_eq_true hu
  rw [List.all_eq_true]
  intro v hv
  simp only [oddV, List.mem_cons, List.not_mem_nil, or_false] at hv
  rcases hv with rfl | rfl | rfl
  · decide
  · decide
  · exact hs _ h
def memoV : List Value := [.string ⟨#[109, 101, 109, 111]⟩, .string ⟨#[77, 101, 109, 111]⟩, .string ⟨#[109, 101, 109, 111, 115]⟩, .string ⟨#[115, 101, 101, 32, 116, 104, 101]⟩, .string ⟨#[195, 169, 116, 195, 169]⟩, .string ⟨#[115, 101, 99, 114, 101, 116]⟩, .string ⟨#[83, 69, 67, 82, 69, 84, 32, 112, 108, 97, 110]⟩, .string ⟨#[97]⟩, .string ⟨#[120, 45, 121]⟩, .string ⟨#[51, 114, 100]⟩]
def gapV : List Value := [.string ⟨#[32]⟩, .string ⟨#[32]⟩, .string ⟨#[10]⟩, .string ⟨#[44, 32]⟩, .string ⟨#[]⟩]
def MemoRel (n : Nat) (B g k : Nat) (w : World) (o i : Value) (wr : World) : Prop := ∃ (s : ByteArray) (j : Nat), o = .string s ∧ i = .int .i64 j ∧ j ≤ n ∧ s.size ≤ 20 * j ∧ (∃ k', k' ≤ k + 2 * j ∧ Strm wr B g k') ∧ w.grownBy wr (some g)
set_option maxHeartbeats 4000000 in
theorem Memo_any (B g k : Nat) (hk : k < 100000000000) (w : World) (hs : Strm w B g k) :
    Calls Tryd.prog 4 #[.pointer (some ⟨g, 0, none⟩)] w (TookS 20001 B g (k + 30) w) := by
  have hlt := hs.lt
  have hBg := hs.le
  have HK := Lib.hid hk
  go_enter Tryd.func4, Tryd.ntmps4
  go_wp2_with fail
  refine (Next_any _ (by omega) (by omega) B g k (by omega) _ hs).mono ?_
  rintro e w1 ⟨r, hr1, hr2, rfl, hs1, hg1⟩
  obtain ⟨n, rfl⟩ := Int.eq_ofNat_of_zero_le hr1
  have hn9 : n ≤ 9 := by omega
  have HG := Lib.hid (And.intro hs1 hg1)
  clear hs hs1 hg1 hr1 hr2 hk
  go_wp2_with fail
  go_loopw [3, 6] (fun o i wr => MemoRel n B g (k + 1) w o i wr) (fun _ i _ => (n - (intOf i).toNat))
  case atStart => exact ⟨_, 0, rfl, rfl, by omega, Nat.le_refl _, ⟨_, by omega, HG.out.1⟩, HG.out.2⟩
  case round =>
    obtain ⟨s, j, rfl, rfl, hj, hsz, ⟨k2, hk2, hs2⟩, hg2⟩ := hrel
    have hkb : k2 < 1000000000000 := by have := HK.out; omega
    by_cases hjn : j < n
    · have hP := one_new 10 memoV 11 9 B g k2 wr hs2 rfl (by omega) (by omega) (by decide) hkb
      have HG2 := Lib.hid hg2
      have HK2 := Lib.hid hk2
      clear hs2 hg2 hk2
      go_wp2_with fail
      refine hP.mono ?_
      rintro e w3 ⟨u, hu, rfl, ⟨k3, hk3, hs3⟩, hg3⟩
      have hP2 := one_new 5 gapV 2 9 B g k3 w3 hs3 rfl (by omega) (by omega) (by decide) (by have := HK.out; have := HK2.out; omega)
      have HG3 := Lib.hid (And.intro hk3 (HG2.out.trans hg3))
      clear hP hs3 hg3 hk3 HG2
      go_wp2_with fail
      refine hP2.mono ?_
      rintro e w4 ⟨v, hv, rfl, ⟨k4, hk4, hs4⟩, hg4⟩
      have HG4 := Lib.hid (And.intro hk4 (And.intro hs4 (HG3.out.2.trans hg4)))
      clear hP2 hs4 hg4 hk4
      go_wp2_with fail
      exact ⟨⟨_, j + 1, rfl, by simp, by omega, by simp only [ByteArray.size_append]; omega, ⟨k4, by have := HK2.out; have := HG3.out.1; have := HG4.out.1; omega, HG4.out.2.1⟩, HG4.out.2.2⟩, by simp [intOf]; omega⟩
    · obtain rfl : j = n := by omega
      have HG2 := Lib.hid hg2
      have HK2 := Lib.hid hk2
      have HS := Lib.hid (show s.size ≤ 180 by omega)
      have hs180 : s.size ≤ 180 := by omega
      have hmm : manyM.size ≤ 20000 := by rw [manyM_size]; omega
      have HT := Lib.hid (And.intro hs2 hg2)
      have HU : Hid (s.size ≤ 20001) := Lib.hid (by omega)
      clear hs2 hg2 hsz hk2
      by_cases he : s.data.toList = []
      · have e1 : (s.toList == []) = true := by rw [Lib.toList_data, he]; rfl
        clear he
        go_wp2_with fail
        refine (Flip_any 20 (by omega) (by omega) B g k2 (by have := HK.out; have := HK2.out; omega) _ HT.out.1).mono ?_
        rintro e w7 ⟨b7, rfl, hs7, hg7⟩
        have HT7 := Lib.hid (And.intro hs7 (HT.out.2.trans hg7))
        clear hs7 hg7
        cases b7
        · go_wp2_with fail
          go_ret
          exact tookS_of HU.out HT7.out.1 (by have := HK2.out; omega) HT7.out.2
        · go_wp2_with fail
          refine (Repeat_m _).mono ?_
          rintro e w8 ⟨rfl, hb8⟩
          have hs8 : Strm w8 B g (k2 + 1) := HT7.out.1.below hb8 HT7.out.1.lt
          have hP := one_new 3 oddV 20001 9 B g (k2 + 1) w8 hs8 rfl (by omega) (by omega) oddV_ok (by have := HK.out; have := HK2.out; omega)
          have HT8 := Lib.hid (HT7.out.2.trans (only_of_below hb8 (some g)))
          clear hs8 hb8
          go_wp2_with fail
          refine hP.mono ?_
          rintro e w9 ⟨v, hv, rfl, ⟨k9, hk9, hs9⟩, hg9⟩
          have HT9 := Lib.hid (And.intro hv (And.intro hk9 (And.intro hs9 (HT8.out.trans hg9))))
          clear hP hs9 hg9 hv hk9
          go_wp2_with fail
          go_ret
          exact tookS_of HT9.out.1 HT9.out.2.2.1 (by have := HK2.out; have := HT9.out.2.1; omega) HT9.out.2.2.2
      · have e1 : (s.toList == []) = false := by rw [Lib.toList_data]; cases h : s.data.toList <;> simp_all
        clear he
        go_wp2_with fail
        refine (Flip_any 12 (by omega) (by omega) B g k2 hkb _ HT.out.1).mono ?_
        rintro e w6 ⟨b6, rfl, hs6, hg6⟩
        have HT6 := Lib.hid (And.intro hs6 (HT.out.2.trans hg6))
        clear hs6 hg6 HT e1
        have HT := HT6
        cases b6
        · have HV : Hid ((s ++ (⟨#[10]⟩ : ByteArray)).size ≤ 20001) := Lib.hid (by rw [ByteArray.size_append]; have := HS.out; show s.size + 1 ≤ _; omega)
          clear HU
          have HU := HV
          go_wp2_with fail
          refine (Flip_any 20 (by omega) (by omega) B g (k2 + 1) (by have := HK.out; have := HK2.out; omega) _ HT.out.1).mono ?_
          rintro e w7 ⟨b7, rfl, hs7, hg7⟩
          have HT7 := Lib.hid (And.intro hs7 (HT.out.2.trans hg7))
          clear hs7 hg7
          cases b7
          · go_wp2_with fail
            go_ret
            exact tookS_of HU.out HT7.out.1 (by have := HK2.out; omega) HT7.out.2
          · go_wp2_with fail
            refine (Repeat_m _).mono ?_
            rintro e w8 ⟨rfl, hb8⟩
            have hs8 : Strm w8 B g ((k2 + 1) + 1) := HT7.out.1.below hb8 HT7.out.1.lt
            have hP := one_new 3 oddV 20001 9 B g ((k2 + 1) + 1) w8 hs8 rfl (by omega) (by omega) oddV_ok (by have := HK.out; have := HK2.out; omega)
            have HT8 := Lib.hid (HT7.out.2.trans (only_of_below hb8 (some g)))
            clear hs8 hb8
            go_wp2_with fail
            refine hP.mono ?_
            rintro e w9 ⟨v, hv, rfl, ⟨k9, hk9, hs9⟩, hg9⟩
            have HT9 := Lib.hid (And.intro hv (And.intro hk9 (And.intro hs9 (HT8.out.trans hg9))))
            clear hP hs9 hg9 hv hk9
            go_wp2_with fail
            go_ret
            exact tookS_of HT9.out.1 HT9.out.2.2.1 (by have := HK2.out; have := HT9.out.2.1; omega) HT9.out.2.2.2
        · go_wp2_with fail
          refine (Flip_any 20 (by omega) (by omega) B g (k2 + 1) (by have := HK.out; have := HK2.out; omega) _ HT.out.1).mono ?_
          rintro e w7 ⟨b7, rfl, hs7, hg7⟩
          have HT7 := Lib.hid (And.intro hs7 (HT.out.2.trans hg7))
          clear hs7 hg7
          cases b7
          · go_wp2_with fail
            go_ret
            exact tookS_of HU.out HT7.out.1 (by have := HK2.out; omega) HT7.out.2
          · go_wp2_with fail
            refine (Repeat_m _).mono ?_
            rintro e w8 ⟨rfl, hb8⟩
            have hs8 : Strm w8 B g ((k2 + 1) + 1) := HT7.out.1.below hb8 HT7.out.1.lt
            have hP := one_new 3 oddV 20001 9 B g ((k2 + 1) + 1) w8 hs8 rfl (by omega) (by omega) oddV_ok (by have := HK.out; have := HK2.out; omega)
            have HT8 := Lib.hid (HT7.out.2.trans (only_of_below hb8 (some g)))
            clear hs8 hb8
            go_wp2_with fail
            refine hP.mono ?_
            rintro e w9 ⟨v, hv, rfl, ⟨k9, hk9, hs9⟩, hg9⟩
            have HT9 := Lib.hid (And.intro hv (And.intro hk9 (And.intro hs9 (HT8.out.trans hg9))))
            clear hP hs9 hg9 hv hk9
            go_wp2_with fail
            go_ret
            exact tookS_of HT9.out.1 HT9.out.2.2.1 (by have := HK2.out; have := HT9.out.2.1; omega) HT9.out.2.2.2
end Go.Proofs.YtflilepmhidndaaDoor
