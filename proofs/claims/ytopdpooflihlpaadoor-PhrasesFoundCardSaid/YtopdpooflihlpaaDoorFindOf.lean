/- Contracts of the reference's FindOf. -/
import Derived.Test.YtopdpooflihlpaaDoorFindP
import Derived.Test.YtopdpooflihlpaaDoorLower0
import Derived.Test.YtopdpooflihlpaaDoorLay99
import Derived.Deep.RegionWith
namespace Go.Proofs.YtopdpooflihlpaaDoor
open Go.RowKit

theorem PaSt.below {w wr w' : World} {n : Nat} {C : Int → Prop} (h : PaSt w wr n C) (hb : Below wr.heap.size wr w') : PaSt w w' n C := by
  obtain ⟨h1, h2, p, h3, h4⟩ := h
  exact ⟨h1.trans (hb.mono h1.size), Nat.lt_of_lt_of_le h2 hb.size, p, h3.below hb h2, h4⟩
theorem PaSt.drewN {w wr : World} {n : Nat} {C : Int → Prop} (h : PaSt w wr n C) (q : Nat) : PaSt w (wr.drewN q) n C := by
  obtain ⟨h1, h2, p, h3, h4⟩ := h
  exact ⟨below_drewN h1 q, h2, p, h3, h4⟩
theorem PaSt.drew {w wr : World} {n : Nat} {C : Int → Prop} (h : PaSt w wr n C) : PaSt w wr.drew n C := by
  obtain ⟨h1, h2, p, h3, h4⟩ := h
  exact ⟨h1.drew, h2, p, h3, h4⟩
/-- strings.HasPrefix of what is behind k -/
theorem prefix_occ (l : ByteArray) (p : ByteArray) (k n : Nat) (hn : l.size = n) (b : Bool) (hb : WM.occ (bs l) (bs p) k = b) (w : World) : Calls Tryd.prog 27 #[.string (l.extract k n), .string p] w fun e w' => e = .returned (.bool b) ∧ w = w' := by
  subst hn
  refine (show Calls Tryd.prog 27 #[.string (l.extract k l.size), .string p] w _ from Any.strings_HasPrefix Tryd.lays99 (l.extract k l.size) p w).mono ?_
  rintro e w' ⟨rfl, rfl⟩
  refine ⟨?_, rfl⟩
  have hdl : (l.extract k l.size).data.toList = (bs l).drop k := by
    show ((l.extract k l.size).data).toList = _
    rw [ByteArray.data_extract, Array.toList_extract]
    simp [bs, List.extract_eq_take_drop]
    rw [List.take_of_length_le (by simp)]
  rw [hdl, ← hb]
  rfl
def foC (t : ByteArray) (P : List ByteArray) (k i m : Nat) (x : Int) : Prop := WM.phC (bs (WM.small t)) (lowQ (P.take k)) x ∨ (∃ q, P[k]? = some q ∧ ((∃ j : Nat, j < i ∧ WM.occ (bs (WM.small t)) (bs (WM.small q)) j = true ∧ (j : Int) ≤ x ∧ x < j + q.size) ∨ ((i : Int) ≤ x ∧ x < (i : Int) + m)))
theorem foC_start (t : ByteArray) (P : List ByteArray) (k : Nat) (x : Int) : WM.phC (bs (WM.small t)) (lowQ (P.take k)) x ↔ foC t P k 0 0 x := by
  constructor
  · exact .inl
  · rintro (h | ⟨q, _, ⟨j, hj, _⟩ | h⟩)
    · exact h
    · omega
    · omega
theorem foC_miss (t : ByteArray) (P : List ByteArray) (k i : Nat) (q : ByteArray) (hq : P[k]? = some q) (ho : WM.occ (bs (WM.small t)) (bs (WM.small q)) i = false) (x : Int) : foC t P k i 0 x ↔ foC t P k (i + 1) 0 x := by
  constructor
  · rintro (h | ⟨q', hq', ⟨j, hj, h⟩ | h⟩)
    · exact .inl h
    · exact .inr ⟨q', hq', .inl ⟨j, by omega, h⟩⟩
    · omega
  · rintro (h | ⟨q', hq', ⟨j, hj, h⟩ | h⟩)
    · exact .inl h
    · rw [hq] at hq'
      obtain rfl := Option.some.inj hq'
      have : j ≠ i := fun e => by rw [e, ho] at h; cases h.1
      exact .inr ⟨q, hq, .inl ⟨j, by omega, h⟩⟩
    · omega
theorem foC_step (t : ByteArray) (P : List ByteArray) (k i m : Nat) (q : ByteArray) (hq : P[k]? = some q) (x : Int) : (foC t P k i m x ∨ x = (i + m : Nat)) ↔ foC t P k i (m + 1) x := by
  constructor
  · rintro ((h | ⟨q', hq', h | h⟩) | h)
    · exact .inl h
    · exact .inr ⟨q', hq', .inl h⟩
    · exact .inr ⟨q', hq', .inr ⟨h.1, by omega⟩⟩
    · exact .inr ⟨q, hq, .inr ⟨by omega, by omega⟩⟩
  · rintro (h | ⟨q', hq', h | h⟩)
    · exact .inl (.inl h)
    · exact .inl (.inr ⟨q', hq', .inl h⟩)
    · by_cases e : x = (i + m : Nat)
      · exact .inr e
      · exact .inl (.inr ⟨q', hq', .inr ⟨h.1, by omega⟩⟩)
theorem foC_hit (t : ByteArray) (P : List ByteArray) (k i : Nat) (q : ByteArray) (hq : P[k]? = some q) (ho : WM.occ (bs (WM.small t)) (bs (WM.small q)) i = true) (x : Int) : foC t P k i q.size x ↔ foC t P k (i + 1) 0 x := by
  constructor
  · rintro (h | ⟨q', hq', ⟨j, hj, h⟩ | h⟩)
    · exact .inl h
    · exact .inr ⟨q', hq', .inl ⟨j, by omega, h⟩⟩
    · exact .inr ⟨q, hq, .inl ⟨i, by omega, ho, h.1, h.2⟩⟩
  · rintro (h | ⟨q', hq', ⟨j, hj, h⟩ | h⟩)
    · exact .inl h
    · rw [hq] at hq'
      obtain rfl := Option.some.inj hq'
      by_cases e : j = i
      · subst e; exact .inr ⟨q, hq, .inr ⟨h.2.1, h.2.2⟩⟩
      · exact .inr ⟨q, hq, .inl ⟨j, by omega, h⟩⟩
    · omega
theorem foC_done (t : ByteArray) (P : List ByteArray) (k : Nat) (q : ByteArray) (hq : P[k]? = some q) (h0 : 0 < q.size) (x : Int) : foC t P k t.size 0 x ↔ WM.phC (bs (WM.small t)) (lowQ (P.take (k + 1))) x := by
  rw [lowQ_snoc hq, WM.phC_snoc]
  constructor
  · rintro (h | ⟨q', hq', ⟨j, hj, h1, h2, h3⟩ | h⟩)
    · exact .inl h
    · rw [hq] at hq'
      obtain rfl := Option.some.inj hq'
      exact .inr ⟨j, h1, h2, by rw [bs_len, TB.small_sz]; exact h3⟩
    · omega
  · rintro (h | ⟨j, h1, h2, h3⟩)
    · exact .inl h
    · have hr := WM.occ_room h1 (by rw [bs_len, TB.small_sz]; exact h0)
      rw [bs_len, TB.small_sz, bs_len, TB.small_sz] at hr
      rw [bs_len, TB.small_sz] at h3
      exact .inr ⟨q, hq, .inl ⟨j, by omega, h1, h2, h3⟩⟩
def Fo1 (w : World) (t : ByteArray) (P : List ByteArray) (i : Value) (wr : World) : Prop := ∃ k : Nat, i = .int .i64 k ∧ k ≤ P.length ∧ Hid (PaSt w wr t.size (WM.phC (bs (WM.small t)) (lowQ (P.take k))))
def Fo2 (w : World) (t : ByteArray) (P : List ByteArray) (k : Nat) (v : Value) (wr : World) : Prop := ∃ i : Nat, v = .int .i64 i ∧ i ≤ t.size ∧ Hid (PaSt w wr t.size (foC t P k i 0))
def Fo3 (w : World) (t : ByteArray) (P : List ByteArray) (k i n : Nat) (v : Value) (wr : World) : Prop := ∃ m : Nat, v = .int .i64 m ∧ m ≤ n ∧ Hid (PaSt w wr t.size (foC t P k i m))
set_option maxHeartbeats 16000000 in
set_option maxRecDepth 100000 in
theorem FindOf_ok {w : World} {b : Nat} {v : Value} {t : ByteArray} {P : List ByteArray} (h : OwnS w b v P) (ht : t.size ≤ 1000000) (hP : ∀ x, x ∈ P → 0 < x.size ∧ x.size ≤ 200) :
    Calls Tryd.prog 11 #[.string t, v] w (MixSays (WM.phC (bs (WM.small t)) (lowQ P)) w) := by
  have hlen := h.len_le
  obtain ⟨A, cap, rfl, hf⟩ := h.form
  have HGD := Lib.hid hP
  have hmk := run_make_row' (P := Tryd.prog) 53 4 (.bool false) 1 Tryd.underlying53 info_bool rfl .i64 .i64 t.size (by omega) (by omega)
  have hlow := fun (s : ByteArray) (hs : s.size ≤ 1000000000000) (W : World) => lower_any s hs W
  have HS : Hid (PaSt w (w.alloc (.cells (madeCells #[.bool false] t.size) 4)) t.size (WM.phC (bs (WM.small t)) (lowQ (P.take 0)))) := Lib.hid ⟨(Below.refl _ _).alloc (Nat.le_refl _) _, by simp, fun _ => false, World.rowIs_made w _ _ _, fun j hj => by
    constructor
    · intro h; cases h
    · rintro ⟨q, hq, _⟩; simp [lowQ] at hq⟩
  clear h hP
  go_enter Tryd.func11, Tryd.ntmps11
  go_wp2_with fail
  refine (hlow t (by omega) _).mono ?_
  rintro e w1 ⟨rfl, hb1⟩
  have HS1 := Lib.hid (HS.out.below hb1)
  clear hb1 hmk
  go_wp2_with fail
  go_loopw [19] (fun i wr => Fo1 w t P i wr) (fun i _ => P.length - (intOf i).toNat)
  case atStart => exact ⟨0, rfl, Nat.zero_le _, HS1⟩
  case round =>
    obtain ⟨k, rfl, hk, HK⟩ := hrel
    clear HS1 HS
    by_cases hlt : k < P.length
    · obtain ⟨g, rfl, hg1, hg2, hcs⟩ := hf (by omega)
      have hx := List.getElem?_eq_getElem hlt
      have hm := HGD.out _ (List.getElem_mem hlt)
      generalize P[k] = x at hx hm
      have hd := (HK.out.1.cell (p := ⟨g, k, none⟩) hg2).trans (hcs k x hx)
      have HX := Lib.hid (And.intro hx hm)
      have HK0 := Lib.hid (HK.out.congr (fun i => foC_start t P k i))
      have hxs : x.size ≤ 200 := hm.2
      have hsml : (WM.small t).size = t.size := TB.small_sz t
      clear hx hcs hf hm
      go_wp2_with fail
      go_loopw [25] (fun i wr2 => Fo2 w t P k i wr2) (fun i _ => t.size - (intOf i).toNat)
      case atStart => exact ⟨0, rfl, Nat.zero_le _, HK0⟩
      case round =>
        obtain ⟨i, rfl, hi, HI⟩ := hrel
        clear HK0 hd
        by_cases hil : i < t.size
        · have hLx := fun W => hlow x (by omega) W
          cases ho : WM.occ (bs (WM.small t)) (bs (WM.small x)) i
          · have hPx := fun W => prefix_occ (WM.small t) (WM.small x) i t.size hsml _ ho W
            have HN := Lib.hid (HI.out.congr (fun y => foC_miss t P k i x HX.out.1 ho y))
            clear ho hlow
            go_wp2_with fail
            go_region_with (first | (go_at_call 26; refine (hLx _).mono ?_; rintro e w7 ⟨rfl, hb7⟩) | (go_at_call 27; refine (hPx _).mono ?_; rintro e w8 ⟨rfl, rfl⟩))
            have HN2 := Lib.hid (HN.out.drew.below hb7)
            clear hb7 hLx hPx
            go_wp2_with fail
            exact ⟨⟨i + 1, by simp, by omega, HN2⟩, by simp [intOf]; omega⟩
          · have hPx := fun W => prefix_occ (WM.small t) (WM.small x) i t.size hsml _ ho W
            have hroom := WM.occ_room ho (by rw [bs_len, TB.small_sz]; exact HX.out.2.1)
            rw [bs_len, TB.small_sz, bs_len, TB.small_sz] at hroom
            have HO := Lib.hid ho
            clear ho hlow
            go_wp2_with fail
            go_region_with (first | (go_at_call 26; refine (hLx _).mono ?_; rintro e w7 ⟨rfl, hb7⟩) | (go_at_call 27; refine (hPx _).mono ?_; rintro e w8 ⟨rfl, rfl⟩))
            have HN2 := Lib.hid (HI.out.drew.below hb7)
            clear hb7 hLx hPx
            go_wp2_with fail
            go_loopw [36] (fun m wr3 => Fo3 w t P k i x.size m wr3) (fun m _ => x.size - (intOf m).toNat)
            case atStart => exact ⟨0, rfl, Nat.zero_le _, HN2⟩
            case round =>
              obtain ⟨m, rfl, hm, HM⟩ := hrel
              by_cases hml : m < x.size
              · obtain ⟨⟨b0, hb0⟩, hfz⟩ := HM.out.at_ (show i + m < t.size by omega)
                have HS := Lib.hid ((HM.out.set (i + m)).congr (fun y => foC_step t P k i m x HX.out.1 y))
                have e1 : ((i : Int) + (m : Int)).toNat = i + m := by omega
                clear HN2
                go_wp2_with fail
                exact ⟨⟨m + 1, by simp, by omega, HS⟩, by simp [intOf]; omega⟩
              · obtain rfl : m = x.size := by omega
                have HS := Lib.hid (HM.out.congr (fun y => foC_hit t P k i x HX.out.1 HO.out y))
                clear HN2
                go_wp2_with fail
                exact ⟨⟨i + 1, by simp, by omega, HS⟩, by simp [intOf]; omega⟩
        · obtain rfl : i = t.size := by omega
          have HS := Lib.hid (HI.out.congr (fun y => foC_done t P k x HX.out.1 HX.out.2.1 y))
          clear hlow
          go_wp2_with fail
          exact ⟨⟨k + 1, by simp, by omega, HS⟩, by simp [intOf]; omega⟩
    · obtain rfl : k = P.length := by omega
      have hP0 := HK.out
      rw [List.take_length] at hP0
      obtain ⟨hbw, hltw, p, hp, hpc⟩ := hP0
      have hS := spansFrom_any hp (by omega)
      have HW := Lib.hid hbw
      have HPC := Lib.hid hpc
      clear hp hbw hltw hpc hf hlow HK
      go_wp2_with fail
      refine hS.mono ?_
      rintro e w6 ⟨L, hL, v6, rfl, ho6, hb6⟩
      have hBn := boundedR_any ho6
      have HL := Lib.hid hL
      have HB6 := Lib.hid (HW.out.trans (hb6.mono HW.out.size))
      clear hS ho6 hb6 hL
      go_wp2_with fail
      refine hBn.mono ?_
      rintro e w7 ⟨v7, rfl, ho7, rfl⟩
      have HO7 := Lib.hid ho7
      clear hBn ho7
      go_wp2_with fail
      go_ret2
      refine ⟨L, HL.out.sep, fun i => ?_, v7, rfl, HO7.out.less HW.out.size, HB6.out⟩
      rw [HL.out.cov]
      constructor
      · rintro ⟨j, rfl, hj, hpj⟩
        exact (HPC.out j hj).1 hpj
      · rintro ⟨q, hq, j, h1, h2, h3⟩
        obtain ⟨x, hx, rfl⟩ := List.mem_map.1 hq
        have hr := WM.occ_room h1 (by rw [bs_len, TB.small_sz]; exact (HGD.out x hx).1)
        rw [bs_len, TB.small_sz, bs_len, TB.small_sz] at hr
        rw [bs_len, TB.small_sz] at h3
        have hj2 : i.toNat < t.size := by omega
        refine ⟨i.toNat, by omega, hj2, (HPC.out _ hj2).2 ?_⟩
        have e : ((i.toNat : Nat) : Int) = i := by omega
        rw [e]
        exact ⟨_, hq, j, h1, h2, by rw [bs_len, TB.small_sz]; exact h3⟩
end Go.Proofs.YtopdpooflihlpaaDoor
