/- Texts put together. -/
import Derived.Test.YtdmgfkgfcofmhaaDoorStream0
import Derived.IntWalk
import Derived.Test.YtdmgfkgfcofmhaaDoorBlk
import Derived.Test.YtdmgfkgfcofmhaaDoorLays
import Derived.Shelf.Strings.Repeat
import Derived.Test.YtdmgfkgfcofmhaaDoorSpRow
/- What makers of strings and numbers answer. -/
namespace Go.Proofs.YtdmgfkgfcofmhaaDoor
open Go.RowKit

/-- a string of at most m bytes; of what was there only the stream has turned -/
def TookS (m : Nat) (B g k : Nat) (w : World) (e : Ending) (w' : World) : Prop := ∃ s : ByteArray, s.size ≤ m ∧ e = .returned (.string s) ∧ (∃ k', k' ≤ k ∧ Strm w' B g k') ∧ w.grownBy w' (some g)
theorem tookS_of {m B g k k' : Nat} {s : ByteArray} {w w' : World} (hm : s.size ≤ m) (hs : Strm w' B g k') (hk : k' ≤ k) (hg : w.grownBy w' (some g)) : TookS m B g k w (.returned (.string s)) w' := ⟨s, hm, rfl, ⟨k', hk, hs⟩, hg⟩
def strV (m : Nat) (v : Value) : Bool := match v with | .string u => decide (u.size ≤ m) | _ => false
theorem strV_at {m : Nat} {cs : List Value} (h : cs.all (strV m) = true) {i : Nat} (hi : i < cs.length) : ∃ u : ByteArray, cs[i]? = some (.string u) ∧ u.size ≤ m := by
  have := List.all_eq_true.1 h cs[i] (List.getElem_mem hi)
  rw [List.getElem?_eq_getElem hi]
  revert this
  generalize cs[i] = v
  cases v <;> intro this <;> first | exact ⟨_, rfl, of_decide_eq_true this⟩ | cases this

/-- one of some numbers, all of them at least lo and at most hi -/
def TookN (lo hi : Int) (B g k : Nat) (w : World) (e : Ending) (w' : World) : Prop := ∃ r : Int, lo ≤ r ∧ r ≤ hi ∧ e = .returned (.int .i64 r) ∧ (∃ k', k' ≤ k ∧ Strm w' B g k') ∧ w.grownBy w' (some g)
theorem tookN_of {lo hi r : Int} {B g k k' : Nat} {w w' : World} (h1 : lo ≤ r) (h2 : r ≤ hi) (hs : Strm w' B g k') (hk : k' ≤ k) (hg : w.grownBy w' (some g)) : TookN lo hi B g k w (.returned (.int .i64 r)) w' := ⟨r, h1, h2, rfl, ⟨k', hk, hs⟩, hg⟩
def intV (lo hi : Int) (v : Value) : Bool := match v with | .int .i64 z => decide (lo ≤ z) && decide (z ≤ hi) | _ => false
theorem intV_at {lo hi : Int} {cs : List Value} (h : cs.all (intV lo hi) = true) {i : Nat} (hi' : i < cs.length) : ∃ z : Int, cs[i]? = some (.int .i64 z) ∧ lo ≤ z ∧ z ≤ hi := by
  have := List.all_eq_true.1 h cs[i] (List.getElem_mem hi')
  rw [List.getElem?_eq_getElem hi']
  revert this
  generalize cs[i] = v
  cases v with
  | int k z => cases k <;> intro this <;> first | exact ⟨_, rfl, by simpa [intV] using this⟩ | cases this
  | _ => intro this; cases this

theorem took_new {m B g k : Nat} {wr : World} {o : Obj} {e : Ending} {w' : World} (h : TookS m B g k (wr.alloc o) e w') : TookS m B g k wr e w' := by
  obtain ⟨s, h1, h2, h3, h4⟩ := h
  exact ⟨s, h1, h2, h3, (World.grownBy_alloc _ _ _).trans h4⟩
theorem tookN_new {lo hi : Int} {B g k : Nat} {wr : World} {o : Obj} {e : Ending} {w' : World} (h : TookN lo hi B g k (wr.alloc o) e w') : TookN lo hi B g k wr e w' := by
  obtain ⟨s, h1, h1', h2, h3, h4⟩ := h
  exact ⟨s, h1, h1', h2, h3, (World.grownBy_alloc _ _ _).trans h4⟩
end Go.Proofs.YtdmgfkgfcofmhaaDoor
/- Contract of the maker Pick at a row of known numbers. -/
namespace Go.Proofs.YtdmgfkgfcofmhaaDoor
open Go.RowKit

set_option maxHeartbeats 400000 in
theorem pick_any (n : Nat) (cs : List Value) (lo hi : Int) (b : Nat) (t : TypeId) (B g k : Nat) (w : World) (hs : Strm w B g k) (hb : w.heap[b]? = some (.cells cs.toArray t (0, 0))) (hn : cs.length = n) (h0 : 0 < n) (h1 : n ≤ 1000000) (hcs : cs.all (intV lo hi) = true) (hk : k < 1000000000000) (hne : b ≠ g) :
    Calls Tryd.prog 23 #[.pointer (some ⟨g, 0, none⟩), .slice (some ⟨b, 0, none⟩) n n] w (TookN lo hi B g (k + 1) w) := by
  have hbl : b < w.heap.size := by
    rcases Nat.lt_or_ge b w.heap.size with hlt | hge
    · exact hlt
    · rw [Array.getElem?_eq_none hge] at hb; cases hb
  have Hb := Lib.hid hb
  have HC := Lib.hid hcs
  have HN := Lib.hid hn
  clear hb hcs hn
  go_enter Tryd.func23, Tryd.ntmps23
  go_wp2_with fail
  refine (Next_any _ (by omega) (by omega) B g k hk _ hs).mono ?_
  rintro e w' ⟨r, hr1, hr2, rfl, hs1, hg1⟩
  obtain ⟨i, rfl⟩ := Int.eq_ofNat_of_zero_le hr1
  have hi' : i < n := by omega
  obtain ⟨z, hu, hm1, hm2⟩ := intV_at HC.out (i := i) (by have := HN.out; omega)
  have HM := Lib.hid (And.intro hm1 hm2)
  clear hm1 hm2
  have hc : w'.cell? ⟨b, i, none⟩ = some (.int .i64 z) := by
    rw [cell_of_row w' b i _ t (0, 0) ((hg1.block b hbl (by simpa using hne)).trans Hb.out)]
    simpa using hu
  clear hu
  go_wp2_with fail
  go_ret
  exact tookN_of HM.out.1 HM.out.2 hs1 (Nat.le_refl _) hg1

theorem pick_new (n : Nat) (cs : List Value) (lo hi : Int) (t : TypeId) (B g k : Nat) (wr : World) (hs : Strm wr B g k) (hn : cs.length = n) (h0 : 0 < n) (h1 : n ≤ 1000000) (hcs : cs.all (intV lo hi) = true) (hk : k < 1000000000000) :
    Calls Tryd.prog 23 #[.pointer (some ⟨g, 0, none⟩), .slice (some ⟨wr.heap.size, 0, none⟩) n n] (wr.alloc (.cells cs.toArray t)) (TookN lo hi B g (k + 1) wr) :=
  (pick_any n cs lo hi wr.heap.size t B g k _ (hs.alloc _) (heap_alloc_new wr _) hn h0 h1 hcs hk (by have := hs.lt; omega)).mono fun _ _ h => tookN_new h

end Go.Proofs.YtdmgfkgfcofmhaaDoor
/- Contract of the maker Flip. -/
namespace Go.Proofs.YtdmgfkgfcofmhaaDoor
open Go.RowKit

/-- yes or no -/
def TookB (B g k : Nat) (w : World) (e : Ending) (w' : World) : Prop := ∃ b : Bool, e = .returned (.bool b) ∧ Strm w' B g k ∧ w.grownBy w' (some g)
theorem tookB_of {b : Bool} {B g k : Nat} {w w' : World} (hs : Strm w' B g k) (hg : w.grownBy w' (some g)) : TookB B g k w (.returned (.bool b)) w' := ⟨b, rfl, hs, hg⟩
set_option maxHeartbeats 400000 in
theorem Flip_any (n : Int) (h1 : 1 ≤ n) (h2 : n ≤ 9223372036854775807) (B g k : Nat) (hk : k < 1000000000000) (w : World) (hs : Strm w B g k) :
    Calls Tryd.prog 20 #[.pointer (some ⟨g, 0, none⟩), .int .i64 n] w (TookB B g (k + 1) w) := by
  go_enter Tryd.func20, Tryd.ntmps20
  go_wp2_with fail
  refine (Next_any _ h1 h2 B g k hk _ hs).mono ?_
  rintro e w' ⟨r, hr1, hr2, rfl, hs1, hg1⟩
  go_wp2_with fail
  go_ret
  exact tookB_of hs1 hg1
end Go.Proofs.YtdmgfkgfcofmhaaDoor
/- Contract of the maker h06one. -/
namespace Go.Proofs.YtdmgfkgfcofmhaaDoor
open Go.RowKit

set_option maxHeartbeats 400000 in
theorem one_any (n : Nat) (cs : List Value) (m : Nat) (b : Nat) (t : TypeId) (B g k : Nat) (w : World) (hs : Strm w B g k) (hb : w.heap[b]? = some (.cells cs.toArray t (0, 0))) (hn : cs.length = n) (h0 : 0 < n) (h1 : n ≤ 1000000) (hcs : cs.all (strV m) = true) (hk : k < 1000000000000) (hne : b ≠ g) :
    Calls Tryd.prog 19 #[.pointer (some ⟨g, 0, none⟩), .slice (some ⟨b, 0, none⟩) n n] w (TookS m B g (k + 1) w) := by
  have hbl : b < w.heap.size := by
    rcases Nat.lt_or_ge b w.heap.size with hlt | hge
    · exact hlt
    · rw [Array.getElem?_eq_none hge] at hb; cases hb
  have Hb := Lib.hid hb
  have HC := Lib.hid hcs
  have HN := Lib.hid hn
  clear hb hcs hn
  go_enter Tryd.func19, Tryd.ntmps19
  go_wp2_with fail
  refine (Next_any _ (by omega) (by omega) B g k hk _ hs).mono ?_
  rintro e w' ⟨r, hr1, hr2, rfl, hs1, hg1⟩
  obtain ⟨i, rfl⟩ := Int.eq_ofNat_of_zero_le hr1
  have hi : i < n := by omega
  obtain ⟨u, hu, hm⟩ := strV_at HC.out (i := i) (by have := HN.out; omega)
  have hc : w'.cell? ⟨b, i, none⟩ = some (.string u) := by
    rw [cell_of_row w' b i _ t (0, 0) ((hg1.block b hbl (by simpa using hne)).trans Hb.out)]
    simpa using hu
  clear hu
  go_wp2_with fail
  go_ret
  exact tookS_of hm hs1 (Nat.le_refl _) hg1
theorem one_new (n : Nat) (cs : List Value) (m : Nat) (t : TypeId) (B g k : Nat) (wr : World) (hs : Strm wr B g k) (hn : cs.length = n) (h0 : 0 < n) (h1 : n ≤ 1000000) (hcs : cs.all (strV m) = true) (hk : k < 1000000000000) :
    Calls Tryd.prog 19 #[.pointer (some ⟨g, 0, none⟩), .slice (some ⟨wr.heap.size, 0, none⟩) n n] (wr.alloc (.cells cs.toArray t)) (TookS m B g (k + 1) wr) :=
  (one_any n cs m wr.heap.size t B g k _ (hs.alloc _) (heap_alloc_new wr _) hn h0 h1 hcs hk (by have := hs.lt; omega)).mono fun _ _ h => took_new h

end Go.Proofs.YtdmgfkgfcofmhaaDoor
/- Contracts of the makers Memo and One. -/
namespace Go.Proofs.YtdmgfkgfcofmhaaDoor
open Go.RowKit

/-- 20000 letters m -/
noncomputable def manyM : ByteArray := ⟨(Lib.repeatL [109] 20000).toArray⟩
theorem manyM_size : manyM.size = 20000 := by
  show (Lib.repeatL [109] 20000).toArray.size = 20000
  rw [List.size_toArray, Lib.repeatL_length]
  rfl
theorem Repeat_m (w : World) : Calls Tryd.prog 21 #[.string ⟨#[109]⟩, .int .i64 20000] w fun e w' => e = .returned (.string manyM) ∧ Below w.heap.size w w' :=
  Any.strings_Repeat Tryd.lays105 (Tryd.extra _ rfl rfl) ⟨#[109]⟩ 20000 w (by omega) (by show 1 * 20000 ≤ _; omega)
noncomputable def oddV : List Value := [.string ⟨#[97, 9, 98, 10]⟩, .string ⟨#[255, 10]⟩, .string (manyM ++ ⟨#[10]⟩)]
theorem oddV_ok : oddV.all (strV 20001) = true := by
  have h : (manyM ++ (⟨#[10]⟩ : ByteArray)).size ≤ 20001 := by
    have e1 : (⟨#[10]⟩ : ByteArray).size = 1 := rfl
    rw [ByteArray.size_append, manyM_size, e1]
    omega
  have hs : ∀ u : ByteArray, u.size ≤ 20001 → strV 20001 (.string u) = true := fun u hu => decide_eq_true hu
  rw [List.all_eq_true]
  intro v hv
  simp only [oddV, List.mem_cons, List.not_mem_nil, or_false] at hv
  rcases hv with rfl | rfl | rfl
  · decide
  · decide
  · exact hs _ h
def memoV : List Value := [.string ⟨#[109, 101, 109, 111]⟩, .string ⟨#[77, 101, 109, 111]⟩, .string ⟨#[109, 101, 109, 111, 115]⟩, .string ⟨#[115, 101, 101, 32, 116, 104, 101]⟩, .string ⟨#[195, 169, 116, 195, 169]⟩, .string ⟨#[115, 101, 99, 114, 101, 116]⟩, .string ⟨#[83, 69, 67, 82, 69, 84, 32, 112, 108, 97, 110]⟩, .string ⟨#[97]⟩, .string ⟨#[120, 45, 121]⟩, .string ⟨#[51, 114, 100]⟩]
def gapV : List Value := [.string ⟨#[32]⟩, .string ⟨#[32]⟩, .string ⟨#[10]⟩, .string ⟨#[44, 32]⟩, .string ⟨#[]⟩]
def MemoRel (n : Nat) (B g k : Nat) (w : World) (o i : Value) (wr : World) : Prop := ∃ (s : ByteArray) (j : Nat), o = .string s ∧ i = .int .i64 j ∧ j ≤ n ∧ s.size ≤ 20 * j ∧ (∃ k', k' ≤ k + 2 * j ∧ Strm wr B g k') ∧ w.grownBy wr (some g)
set_option maxHeartbeats 4000000 in
theorem Memo_any (B g k : Nat) (hk : k < 100000000000) (w : World) (hs : Strm w B g k) :
    Calls Tryd.prog 4 #[.pointer (some ⟨g, 0, none⟩)] w (TookS 20001 B g (k + 30) w) := by
  have hlt := hs.lt
  have hBg := hs.le
  have HK := Lib.hid hk
  go_enter Tryd.func4, Tryd.ntmps4
  go_wp2_with fail
  refine (Next_any _ (by omega) (by omega) B g k (by omega) _ hs).mono ?_
  rintro e w1 ⟨r, hr1, hr2, rfl, hs1, hg1⟩
  obtain ⟨n, rfl⟩ := Int.eq_ofNat_of_zero_le hr1
  have hn9 : n ≤ 9 := by omega
  have HG := Lib.hid (And.intro hs1 hg1)
  clear hs hs1 hg1 hr1 hr2 hk
  go_wp2_with fail
  go_loopw [3, 6] (fun o i wr => MemoRel n B g (k + 1) w o i wr) (fun _ i _ => (n - (intOf i).toNat))
  case atStart => exact ⟨_, 0, rfl, rfl, by omega, Nat.le_refl _, ⟨_, by omega, HG.out.1⟩, HG.out.2⟩
  case round =>
    obtain ⟨s, j, rfl, rfl, hj, hsz, ⟨k2, hk2, hs2⟩, hg2⟩ := hrel
    have hkb : k2 < 1000000000000 := by have := HK.out; omega
    by_cases hjn : j < n
    · have hP := one_new 10 memoV 11 9 B g k2 wr hs2 rfl (by omega) (by omega) (by decide) hkb
      have HG2 := Lib.hid hg2
      have HK2 := Lib.hid hk2
      clear hs2 hg2 hk2
      go_wp2_with fail
      refine hP.mono ?_
      rintro e w3 ⟨u, hu, rfl, ⟨k3, hk3, hs3⟩, hg3⟩
      have hP2 := one_new 5 gapV 2 9 B g k3 w3 hs3 rfl (by omega) (by omega) (by decide) (by have := HK.out; have := HK2.out; omega)
      have HG3 := Lib.hid (And.intro hk3 (HG2.out.trans hg3))
      clear hP hs3 hg3 hk3 HG2
      go_wp2_with fail
      refine hP2.mono ?_
      rintro e w4 ⟨v, hv, rfl, ⟨k4, hk4, hs4⟩, hg4⟩
      have HG4 := Lib.hid (And.intro hk4 (And.intro hs4 (HG3.out.2.trans hg4)))
      clear hP2 hs4 hg4 hk4
      go_wp2_with fail
      exact ⟨⟨_, j + 1, rfl, by simp, by omega, by simp only [ByteArray.size_append]; omega, ⟨k4, by have := HK2.out; have := HG3.out.1; have := HG4.out.1; omega, HG4.out.2.1⟩, HG4.out.2.2⟩, by simp [intOf]; omega⟩
    · obtain rfl : j = n := by omega
      have HG2 := Lib.hid hg2
      have HK2 := Lib.hid hk2
      have HS := Lib.hid (show s.size ≤ 180 by omega)
      have hs180 : s.size ≤ 180 := by omega
      have hmm : manyM.size ≤ 20000 := by rw [manyM_size]; omega
      have HT := Lib.hid (And.intro hs2 hg2)
      have HU : Hid (s.size ≤ 20001) := Lib.hid (by omega)
      clear hs2 hg2 hsz hk2
      by_cases he : s.data.toList = []
      · have e1 : (s.toList == []) = true := by rw [Lib.toList_data, he]; rfl
        clear he
        go_wp2_with fail
        refine (Flip_any 20 (by omega) (by omega) B g k2 (by have := HK.out; have := HK2.out; omega) _ HT.out.1).mono ?_
        rintro e w7 ⟨b7, rfl, hs7, hg7⟩
        have HT7 := Lib.hid (And.intro hs7 (HT.out.2.trans hg7))
        clear hs7 hg7
        cases b7
        · go_wp2_with fail
          go_ret
          exact tookS_of HU.out HT7.out.1 (by have := HK2.out; omega) HT7.out.2
        · go_wp2_with fail
          refine (Repeat_m _).mono ?_
          rintro e w8 ⟨rfl, hb8⟩
          have hs8 : Strm w8 B g (k2 + 1) := HT7.out.1.below hb8 HT7.out.1.lt
          have hP := one_new 3 oddV 20001 9 B g (k2 + 1) w8 hs8 rfl (by omega) (by omega) oddV_ok (by have := HK.out; have := HK2.out; omega)
          have HT8 := Lib.hid (HT7.out.2.trans (only_of_below hb8 (some g)))
          clear hs8 hb8
          go_wp2_with fail
          refine hP.mono ?_
          rintro e w9 ⟨v, hv, rfl, ⟨k9, hk9, hs9⟩, hg9⟩
          have HT9 := Lib.hid (And.intro hv (And.intro hk9 (And.intro hs9 (HT8.out.trans hg9))))
          clear hP hs9 hg9 hv hk9
          go_wp2_with fail
          go_ret
          exact tookS_of HT9.out.1 HT9.out.2.2.1 (by have := HK2.out; have := HT9.out.2.1; omega) HT9.out.2.2.2
      · have e1 : (s.toList == []) = false := by rw [Lib.toList_data]; cases h : s.data.toList <;> simp_all
        clear he
        go_wp2_with fail
        refine (Flip_any 12 (by omega) (by omega) B g k2 hkb _ HT.out.1).mono ?_
        rintro e w6 ⟨b6, rfl, hs6, hg6⟩
        have HT6 := Lib.hid (And.intro hs6 (HT.out.2.trans hg6))
        clear hs6 hg6 HT e1
        have HT := HT6
        cases b6
        · have HV : Hid ((s ++ (⟨#[10]⟩ : ByteArray)).size ≤ 20001) := Lib.hid (by rw [ByteArray.size_append]; have := HS.out; show s.size + 1 ≤ _; omega)
          clear HU
          have HU := HV
          go_wp2_with fail
          refine (Flip_any 20 (by omega) (by omega) B g (k2 + 1) (by have := HK.out; have := HK2.out; omega) _ HT.out.1).mono ?_
          rintro e w7 ⟨b7, rfl, hs7, hg7⟩
          have HT7 := Lib.hid (And.intro hs7 (HT.out.2.trans hg7))
          clear hs7 hg7
          cases b7
          · go_wp2_with fail
            go_ret
            exact tookS_of HU.out HT7.out.1 (by have := HK2.out; omega) HT7.out.2
          · go_wp2_with fail
            refine (Repeat_m _).mono ?_
            rintro e w8 ⟨rfl, hb8⟩
            have hs8 : Strm w8 B g ((k2 + 1) + 1) := HT7.out.1.below hb8 HT7.out.1.lt
            have hP := one_new 3 oddV 20001 9 B g ((k2 + 1) + 1) w8 hs8 rfl (by omega) (by omega) oddV_ok (by have := HK.out; have := HK2.out; omega)
            have HT8 := Lib.hid (HT7.out.2.trans (only_of_below hb8 (some g)))
            clear hs8 hb8
            go_wp2_with fail
            refine hP.mono ?_
            rintro e w9 ⟨v, hv, rfl, ⟨k9, hk9, hs9⟩, hg9⟩
            have HT9 := Lib.hid (And.intro hv (And.intro hk9 (And.intro hs9 (HT8.out.trans hg9))))
            clear hP hs9 hg9 hv hk9
            go_wp2_with fail
            go_ret
            exact tookS_of HT9.out.1 HT9.out.2.2.1 (by have := HK2.out; have := HT9.out.2.1; omega) HT9.out.2.2.2
        · go_wp2_with fail
          refine (Flip_any 20 (by omega) (by omega) B g (k2 + 1) (by have := HK.out; have := HK2.out; omega) _ HT.out.1).mono ?_
          rintro e w7 ⟨b7, rfl, hs7, hg7⟩
          have HT7 := Lib.hid (And.intro hs7 (HT.out.2.trans hg7))
          clear hs7 hg7
          cases b7
          · go_wp2_with fail
            go_ret
            exact tookS_of HU.out HT7.out.1 (by have := HK2.out; omega) HT7.out.2
          · go_wp2_with fail
            refine (Repeat_m _).mono ?_
            rintro e w8 ⟨rfl, hb8⟩
            have hs8 : Strm w8 B g ((k2 + 1) + 1) := HT7.out.1.below hb8 HT7.out.1.lt
            have hP := one_new 3 oddV 20001 9 B g ((k2 + 1) + 1) w8 hs8 rfl (by omega) (by omega) oddV_ok (by have := HK.out; have := HK2.out; omega)
            have HT8 := Lib.hid (HT7.out.2.trans (only_of_below hb8 (some g)))
            clear hs8 hb8
            go_wp2_with fail
            refine hP.mono ?_
            rintro e w9 ⟨v, hv, rfl, ⟨k9, hk9, hs9⟩, hg9⟩
            have HT9 := Lib.hid (And.intro hv (And.intro hk9 (And.intro hs9 (HT8.out.trans hg9))))
            clear hP hs9 hg9 hv hk9
            go_wp2_with fail
            go_ret
            exact tookS_of HT9.out.1 HT9.out.2.2.1 (by have := HK2.out; have := HT9.out.2.1; omega) HT9.out.2.2.2
end Go.Proofs.YtdmgfkgfcofmhaaDoor
/- Contracts of the makers SpanList, AnySpans. -/
namespace Go.Proofs.YtdmgfkgfcofmhaaDoor
open Go.RowKit

theorem only_grownI {a w w' : World} {g : Nat} {row : Option Nat} (h : a.grownBy w (some g)) (hg : w.grownBy w' row) (hr : ∀ k, row = some k → a.heap.size ≤ k) : a.grownBy w' (some g) :=
  ⟨hg.os.trans h.os, hg.tape.trans h.tape, hg.output.trans h.output, Nat.le_trans h.size hg.size, fun i hi hne => (hg.block i (by have := h.size; omega) (fun e => by have := hr i e.symm; omega)).trans (h.block i hi hne)⟩
/-- a row of spans of the call's own; of what was there only the stream has turned -/
def TookI (m : Nat) (B g k : Nat) (w : World) (e : Ending) (w' : World) : Prop := ∃ v L, e = .returned v ∧ L.length ≤ m ∧ OwnI w' w.heap.size v L ∧ (∃ k', k' ≤ k ∧ Strm w' B g k') ∧ w.grownBy w' (some g)
def SlRel (n : Nat) (B g k : Nat) (w : World) (o t i : Value) (wr : World) : Prop := ∃ (j a : Nat) (L : List (Int × Int)), i = .int .i64 j ∧ t = .int .i64 a ∧ a ≤ 20 * j ∧ j ≤ n ∧ L.length ≤ j ∧ OwnI wr w.heap.size o L ∧ (∃ k', k' ≤ k + 2 * j ∧ Strm wr B g k') ∧ w.grownBy wr (some g)
set_option maxHeartbeats 4000000 in
theorem SpanList_any (z : Int) (hz1 : 0 ≤ z) (hz2 : z ≤ 1000000) (B g k : Nat) (hk : k < 100000000000) (w : World) (hs : Strm w B g k) :
    Calls Tryd.prog 22 #[.pointer (some ⟨g, 0, none⟩), .int .i64 z] w (TookI 4 B g (k + 20) w) := by
  have hlt := hs.lt
  have hBg := hs.le
  have HK := Lib.hid hk
  go_enter Tryd.func22, Tryd.ntmps22
  go_wp2_with fail
  refine (Next_any _ (by omega) (by omega) B g k (by omega) _ hs).mono ?_
  rintro e w1 ⟨r, hr1, hr2, rfl, hs1, hg1⟩
  obtain ⟨n, rfl⟩ := Int.eq_ofNat_of_zero_le hr1
  have hn4 : n ≤ 4 := by omega
  have HG := Lib.hid (And.intro hs1 hg1)
  clear hs hs1 hg1 hr1 hr2 hk
  go_wp2_with fail
  go_loopw [5, 6, 11] (fun o t i wr => SlRel n B g (k + 1) w o t i wr) (fun _ _ i _ => (n - (intOf i).toNat))
  case atStart => exact ⟨0, 0, [], rfl, rfl, by omega, by omega, Nat.le_refl _, OwnI.nil _ _, ⟨_, by omega, HG.out.1⟩, HG.out.2⟩
  case round =>
    obtain ⟨j, a, L, rfl, rfl, ha, hj, hl, ho, ⟨k2, hk2, hs2⟩, hg2⟩ := hrel
    obtain ⟨A, cap, rfl, -, -⟩ := ho.form
    have hkb : k2 < 1000000000000 := by have := HK.out; omega
    by_cases hjn : j < n
    · have hP := pick_new 4 [.int .i64 0, .int .i64 1, .int .i64 2, .int .i64 5] 0 5 3 B g k2 wr hs2 rfl (by omega) (by omega) (by decide) hkb
      have HO := Lib.hid (And.intro ho hg2)
      have HKB := Lib.hid hk2
      clear ho hg2 hs2 hkb hk2
      go_wp2_with fail
      refine hP.mono ?_
      rintro e w3 ⟨x, hx1, hx2, rfl, ⟨k3, hk3, hs3⟩, hg3⟩
      have hkb : k3 < 1000000000000 := by have := HK.out; have := HKB.out; omega
      have hP2 := pick_new 5 [.int .i64 1, .int .i64 1, .int .i64 2, .int .i64 4, .int .i64 9] 1 9 3 B g k3 w3 hs3 rfl (by omega) (by omega) (by decide) hkb
      have HO3 := Lib.hid (And.intro (HO.out.1.grown hg3 (fun q hq => by have := HO.out.1.base_le q hq; intro h; injection h; omega)) (HO.out.2.trans hg3))
      have HKC := Lib.hid hk3
      clear hP hs3 hg3 HO hkb hk3
      go_wp2_with fail
      refine hP2.mono ?_
      rintro e w4 ⟨y, hy1, hy2, rfl, ⟨k4, hk4, hs4⟩, hg4⟩
      have HO4 := Lib.hid (And.intro (HO3.out.1.grown hg4 (fun q hq => by have := HO3.out.1.base_le q hq; intro h; injection h; omega)) (And.intro (HO3.out.2.trans hg4) hs4))
      have HKD := Lib.hid (show k4 ≤ k + 1 + 2 * (j + 1) by have := HKB.out; have := HKC.out; omega)
      clear hP2 hs4 hg4 HO3 hk4
      obtain ⟨f, hf⟩ : ∃ f : Int, (a : Int) + x = f := ⟨_, rfl⟩
      obtain ⟨t, ht⟩ : ∃ t : Nat, f + y = (t : Int) := ⟨(f + y).toNat, by omega⟩
      have ht2 : t + 1 ≤ 20 * (j + 1) := by omega
      have hwsz : w.heap.size ≤ w4.heap.size := HO4.out.2.1.size
      have HL1 := Lib.hid (show L.length ≤ 1000000000000 by omega)
      have HL := Lib.hid hl
      by_cases hgt : z < (t : Int)
      · have HR := Lib.hid (show k4 ≤ k + 20 by have := HKD.out; omega)
        clear hl ha
        go_wp2_with fail
        go_ret
        exact ⟨.slice A L.length cap, L, rfl, by have := HL.out; omega, HO4.out.1, ⟨k4, HR.out, HO4.out.2.2⟩, HO4.out.2.1⟩
      · go_wp2_with (at_builtin; refine app_sp _ rfl (.tmp 26) (.tmp 30) rfl w.heap.size _ L rfl (HO4.out.1.alloc _) _ f t rfl ?_ (lits_sp _ f t _) HL1.out ?d2; intro v5 w5 ho5 hg5; have HO5 := Lib.hid (And.intro ho5 hg5); clear ho5 hg5)
        case d2 => first | omega | (simp; omega)
        have hbl := HO4.out.1.base_le
        have hg6 := only_grownI (HO4.out.2.1.trans (only_of_below ((Below.refl w4.heap.size w4).alloc (Nat.le_refl _) _) (some g))) HO5.out.2 hbl
        have hs6 : Strm w5 B g k4 := (HO4.out.2.2.alloc _).grown HO5.out.2 (fun h => by have := hbl g h; omega) (fun q hq => by have := hbl q hq; omega)
        exact ⟨⟨j + 1, t + 1, L ++ [(f, (t : Int))], by simp, by simp, ht2, by omega, by rw [List.length_append]; show L.length + 1 ≤ _; omega, HO5.out.1, ⟨k4, by have := HKD.out; omega, hs6⟩, hg6⟩, by simp [intOf]; omega⟩
    · have HO := Lib.hid (And.intro ho (And.intro hg2 hs2))
      have HR := Lib.hid (show k2 ≤ k + 20 by omega)
      have HL := Lib.hid hl
      clear ho hg2 hs2 hl ha hkb hk2
      go_wp2_with fail
      go_ret
      exact ⟨.slice A L.length cap, L, rfl, by have := HL.out; omega, HO.out.1, ⟨k2, HR.out, HO.out.2.2⟩, HO.out.2.1⟩
set_option maxHeartbeats 4000000 in
theorem AnySpans_any (z : Int) (hz1 : 0 ≤ z) (hz2 : z ≤ 1000000) (B g k : Nat) (hk : k < 10000000000) (w : World) (hs : Strm w B g k) :
    Calls Tryd.prog 5 #[.pointer (some ⟨g, 0, none⟩), .int .i64 z] w (TookI 5 B g (k + 30) w) := by
  have hlt := hs.lt
  have hBg := hs.le
  have HK := Lib.hid hk
  go_enter Tryd.func5, Tryd.ntmps5
  go_wp2_with fail
  refine (SpanList_any z hz1 hz2 B g k (by omega) _ hs).mono ?_
  rintro e w1 ⟨v, L, rfl, hl, ho, ⟨k1, hk1, hs1⟩, hg1⟩
  obtain ⟨A, cap, rfl, -, -⟩ := ho.form
  have HO := Lib.hid (And.intro ho hg1)
  have HL := Lib.hid hl
  have HK1 := Lib.hid hk1
  have hkb : k1 < 1000000000000 := by omega
  clear hs ho hg1 hl hk1 hk
  go_wp2_with fail
  refine (Flip_any 10 (by omega) (by omega) B g k1 hkb _ hs1).mono ?_
  rintro e w2 ⟨b, rfl, hs2, hg2⟩
  have HO2 := Lib.hid (And.intro (HO.out.1.grown hg2 (fun q hq => by have := HO.out.1.base_le q hq; intro h; injection h; omega)) (And.intro (HO.out.2.trans hg2) hs2))
  clear hs1 hs2 hg2 HO hkb
  cases b
  · go_wp2_with fail
    go_ret
    exact ⟨.slice A L.length cap, L, rfl, by have := HL.out; omega, HO2.out.1, ⟨_, by have := HK1.out; omega, HO2.out.2.2⟩, HO2.out.2.1⟩
  · have hP := pick_new 4 [.int .i64 (-1), .int .i64 0, .int .i64 z, .int .i64 (z - 1)] (-1) 1000000 3 B g (k1 + 1) w2 HO2.out.2.2 rfl (by omega) (by omega) (by simp [intV]; omega) (by have := HK1.out; have := HK.out; omega)
    go_wp2_with fail
    refine hP.mono ?_
    rintro e w3 ⟨x, hx1, hx2, rfl, ⟨k3, hk3, hs3⟩, hg3⟩
    have hP2 := pick_new 3 [.int .i64 0, .int .i64 z, .int .i64 (z + 1)] (-1) 1000001 3 B g k3 w3 hs3 rfl (by omega) (by omega) (by simp [intV]; omega) (by have := HK1.out; have := HK.out; omega)
    have HO3 := Lib.hid (And.intro (HO2.out.1.grown hg3 (fun q hq => by have := HO2.out.1.base_le q hq; intro h; injection h; omega)) (HO2.out.2.1.trans hg3))
    have HKC := Lib.hid hk3
    clear hP hs3 hg3 HO2 hk3
    go_wp2_with fail
    refine hP2.mono ?_
    rintro e w4 ⟨y, hy1, hy2, rfl, ⟨k4, hk4, hs4⟩, hg4⟩
    have HO4 := Lib.hid (And.intro (HO3.out.1.grown hg4 (fun q hq => by have := HO3.out.1.base_le q hq; intro h; injection h; omega)) (And.intro (HO3.out.2.trans hg4) hs4))
    have HKD := Lib.hid (show k4 ≤ k + 30 by have := HK1.out; have := HKC.out; omega)
    have HL1 := Lib.hid (show L.length ≤ 1000000000000 by have := HL.out; omega)
    have hwsz : w.heap.size ≤ w4.heap.size := HO4.out.2.1.size
    clear hP2 hs4 hg4 HO3 hk4
    go_wp2_with (at_builtin; refine app_sp _ rfl (.tmp 11) (.tmp 25) rfl w.heap.size _ L rfl (HO4.out.1.alloc _) _ x y rfl ?_ (lits_sp _ x y _) HL1.out ?d2; intro v5 w5 ho5 hg5; have HO5 := Lib.hid (And.intro ho5 hg5); clear ho5 hg5)
    case d2 => first | omega | (simp; omega)
    have hbl := HO4.out.1.base_le
    have hg6 := only_grownI (HO4.out.2.1.trans (only_of_below ((Below.refl w4.heap.size w4).alloc (Nat.le_refl _) _) (some g))) HO5.out.2 hbl
    have hs6 : Strm w5 B g k4 := (HO4.out.2.2.alloc _).grown HO5.out.2 (fun h => by have := hbl g h; omega) (fun q hq => by have := hbl q hq; omega)
    go_ret
    exact ⟨v5, L ++ [(x, y)], rfl, by have := HL.out; rw [List.length_append]; show L.length + 1 ≤ _; omega, HO5.out.1, ⟨k4, HKD.out, hs6⟩, hg6⟩
end Go.Proofs.YtdmgfkgfcofmhaaDoor
/- A slice of ints that came in; the stream over it. -/
namespace Go.Proofs.YtdmgfkgfcofmhaaDoor
open Go.RowKit

/-- a slice of ints below block B -/
def Ints (w : World) (B : Nat) (A : Option Addr) (n : Nat) : Prop := n ≤ 9223372036854775807 ∧ (0 < n → ∃ b off, A = some ⟨b, off, none⟩ ∧ b < B ∧ ∀ i, i < n → ∃ z, w.cell? ⟨b, off + i, none⟩ = some (.int .i64 z) ∧ -9223372036854775808 ≤ z ∧ z ≤ 9223372036854775807)
theorem Ints.strm {w : World} {A : Option Addr} {n cap : Nat} (h : Ints w w.heap.size A n) : Strm (w.alloc (.cells #[.slice A n cap, .int .i64 0] 25)) w.heap.size w.heap.size 0 := by
  refine ⟨A, n, cap, heap_alloc_new w _, Nat.le_refl _, h.1, fun hn => ?_⟩
  obtain ⟨b, off, e, hb, hc⟩ := h.2 hn
  refine ⟨b, off, e, hb, fun i hi => ?_⟩
  obtain ⟨z, hz, hz'⟩ := hc i hi
  exact ⟨z, (World.cell?_of_block (w := w) (a := ⟨b, off + i, none⟩) (Below.heap_alloc w _ b hb)).trans hz, hz'⟩
end Go.Proofs.YtdmgfkgfcofmhaaDoor
