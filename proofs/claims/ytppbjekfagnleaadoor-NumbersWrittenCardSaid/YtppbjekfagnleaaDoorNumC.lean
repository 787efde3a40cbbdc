/- Contracts of numbers of pages: ReadNumber, NumberFrom. -/
import Derived.Test.YtppbjekfagnleaaDoorNumB
namespace NM
/-- what stands behind the capitals -/
def restS (t : ByteArray) : ByteArray := ⟨(Go.Lib.trimLeftS t.data.toList capS.data.toList).toArray⟩
/-- the capitals -/
def preS (t : ByteArray) : ByteArray := t.extract 0 (t.size - (restS t).size)
theorem rest_le (t : ByteArray) : (restS t).size ≤ t.size := by
  unfold restS Go.Lib.trimLeftS
  show (List.dropWhile _ _).toArray.size ≤ _
  rw [List.size_toArray, Go.Lib.size_eq]
  exact (List.dropWhile_sublist _).length_le
open Classical in
/-- what is read: the number, or that it is none -/
noncomputable def rdV (t : ByteArray) : Go.Value := match Go.Lib.atoiAll (restS t).data.toList with
  | .ok v => if numC (preS t) (restS t).size v = 0 ∧ numT (preS t) (restS t).size v = t then .tuple #[.string (preS t), .int .i64 (restS t).size, .int .i64 v, .int .i64 0] else .tuple #[.string ⟨#[]⟩, .int .i64 0, .int .i64 0, .int .i64 9]
  | _ => .tuple #[.string ⟨#[]⟩, .int .i64 0, .int .i64 0, .int .i64 9]
theorem rdV_good {t : ByteArray} {v : Int} (h : Go.Lib.atoiAll (restS t).data.toList = .ok v) (h1 : numC (preS t) (restS t).size v = 0) (h2 : numT (preS t) (restS t).size v = t) : rdV t = .tuple #[.string (preS t), .int .i64 (restS t).size, .int .i64 v, .int .i64 0] := by
  unfold rdV
  rw [h]
  exact if_pos ⟨h1, h2⟩
theorem rdV_bad {t : ByteArray} {v : Int} (h : Go.Lib.atoiAll (restS t).data.toList = .ok v) (h1 : ¬ (numC (preS t) (restS t).size v = 0 ∧ numT (preS t) (restS t).size v = t)) : rdV t = .tuple #[.string ⟨#[]⟩, .int .i64 0, .int .i64 0, .int .i64 9] := by
  unfold rdV
  rw [h]
  exact if_neg h1
theorem rdV_none {t : ByteArray} (h : ∀ v, Go.Lib.atoiAll (restS t).data.toList ≠ .ok v) : rdV t = .tuple #[.string ⟨#[]⟩, .int .i64 0, .int .i64 0, .int .i64 9] := by
  unfold rdV
  split
  · rename_i v hv; exact absurd hv (h v)
  · rfl
theorem numC_far {s : ByteArray} {d n : Int} (hn : n < 1 ∨ 1000000000 ≤ n) : numC s d n ≠ 0 := by
  unfold numC
  split
  · rename_i h
    have hd : d ≤ 9 := by
      unfold serC at h
      split at h
      · split at h
        · cases h
        · omega
      · cases h
    have : 10 ^ d.toNat ≤ 10 ^ 9 := Nat.pow_le_pow_right (by omega) (by omega)
    rw [if_pos (by omega)]
    decide
  · assumption
/-- the digits of a number are figures -/
theorem dig_fig : ∀ (n : Nat), ∀ b, b ∈ Go.Lib.decDigits n → figS.data.toList.contains b = true := fun n => by
  induction n using Nat.strongRecOn with
  | ind n ih =>
    have one : ∀ k, k < 10 → figS.data.toList.contains (UInt8.ofNat (48 + k)) = true := fun k hk => by
      have : ∀ k : Fin 10, figS.data.toList.contains (UInt8.ofNat (48 + k.val)) = true := by decide
      exact this ⟨k, hk⟩
    intro b hb
    by_cases h : n < 10
    · rw [dig_one h] at hb
      rw [List.mem_singleton.1 hb]
      exact one n h
    · rw [dig_more h] at hb
      rcases List.mem_append.1 hb with hb | hb
      · exact ih (n / 10) (by omega) b hb
      · rw [List.mem_singleton.1 hb]
        exact one _ (by omega)
theorem pad_made (d n : Nat) : madeB ⟨(pad d n).toArray⟩ figS = true := by
  unfold madeB
  rw [List.all_eq_true]
  intro b hb
  have hb : b ∈ pad d n := by simpa using hb
  unfold pad at hb
  rcases List.mem_append.1 hb with hb | hb
  · rw [List.eq_of_mem_replicate hb]; decide
  · exact dig_fig n b hb
theorem pre_rest (t : ByteArray) : preS t ++ restS t = t := by
  have hle := rest_le t
  have e : ∀ (p : UInt8 → Bool) (l : List UInt8), l.take (l.length - (l.dropWhile p).length) ++ l.dropWhile p = l := fun p l => by
    have h1 : l.takeWhile p ++ l.dropWhile p = l := List.takeWhile_append_dropWhile
    have h2 : l.length = (l.takeWhile p).length + (l.dropWhile p).length := by rw [← List.length_append, h1]
    have h3 : l.take (l.length - (l.dropWhile p).length) = l.takeWhile p := by
      conv => lhs; arg 2; rw [← h1]
      rw [List.take_append_of_le_length (by omega), List.take_of_length_le (by omega)]
    rw [h3, h1]
  apply ByteArray.ext
  rw [ByteArray.data_append]
  apply Array.toList_inj.1
  rw [Array.toList_append]
  unfold preS
  rw [ByteArray.data_extract, Array.toList_extract]
  have hs : t.size = t.data.toList.length := Go.Lib.size_eq t
  have hr : (restS t).size = (t.data.toList.dropWhile (capS.data.toList.contains ·)).length := by
    unfold restS Go.Lib.trimLeftS
    show (List.dropWhile _ _).toArray.size = _
    rw [List.size_toArray]
  rw [hr, hs]
  have := e (capS.data.toList.contains ·) t.data.toList
  unfold restS Go.Lib.trimLeftS
  simpa using this
/-- where a number is read, its figures are figures, and at most 9 -/
theorem good_made {t : ByteArray} {v : Int} (h1 : numC (preS t) (restS t).size v = 0) (h2 : numT (preS t) (restS t).size v = t) : (restS t).size ≤ 9 ∧ madeB (restS t) figS = true := by
  have hd : (restS t).size ≤ 9 := by
    unfold numC at h1
    split at h1
    · rename_i h
      unfold serC at h
      split at h
      · split at h
        · cases h
        · omega
      · cases h
    · rename_i h; exact absurd h1 h
  refine ⟨hd, ?_⟩
  unfold numT at h2
  rw [if_pos h1] at h2
  have h3 := pre_rest t
  have h4 : preS t ++ ⟨(pad ((restS t).size : Int).toNat v.toNat).toArray⟩ = preS t ++ restS t := by rw [h2, h3]
  have h5 : restS t = ⟨(pad ((restS t).size : Int).toNat v.toNat).toArray⟩ := by
    have := congrArg (fun x : ByteArray => x.data.toList) h4
    simp only [ByteArray.data_append, Array.toList_append] at this
    have := List.append_cancel_left this
    exact ByteArray.ext (Array.toList_inj.1 this.symm)
  rw [h5]
  exact pad_made _ _
theorem rdV_unmade {t : ByteArray} (h : ¬ ((restS t).size ≤ 9 ∧ madeB (restS t) figS = true)) : rdV t = .tuple #[.string ⟨#[]⟩, .int .i64 0, .int .i64 0, .int .i64 9] := by
  rcases hA : Go.Lib.atoiAll (restS t).data.toList with v | _ | _
  · exact rdV_bad hA fun h2 => h (good_made h2.1 h2.2)
  · exact rdV_none fun v h2 => by rw [hA] at h2; cases h2
  · exact rdV_none fun v h2 => by rw [hA] at h2; cases h2
end NM
namespace Go.Proofs.YtppbjekfagnleaaDoor
open Go.RowKit

theorem TrimLeft_any (t : ByteArray) (w : World) : Calls Tryd.prog 22 #[.string t, .string ⟨#[65, 66, 67, 68, 69, 70, 71, 72, 73, 74, 75, 76, 77, 78, 79, 80, 81, 82, 83, 84, 85, 86, 87, 88, 89, 90]⟩] w (SaysT (NM.restS t) w) :=
  Any.strings_TrimLeft_laid Tryd.lays161 (by kernel_rfl) t NM.capS w (by decide) (ascii_of_all (by decide))
def AtSays (v : Int) (w : World) (e : Ending) (w' : World) : Prop := e = .returned (.tuple #[.int .i64 v, .nilIface]) ∧ Below w.heap.size w w'
theorem Atoi_good (s : ByteArray) (hs : s.size ≤ 1000000) (v : Int) (h : Lib.atoiAll s.data.toList = .ok v) (w : World) : Calls Tryd.prog 23 #[.string s] w (AtSays v w) := by
  refine (Any.strconv_Atoi_ok Tryd.laysC172 s (by omega) v h w).mono ?_
  rintro e w' ⟨rfl, rfl | ⟨t, rfl⟩⟩
  · exact ⟨rfl, Below.refl _ _⟩
  · exact ⟨rfl, Go.Joins.below_bytesWorld _ w _ t (Nat.le_refl _)⟩
def AtBad (n : Int) (w : World) (e : Ending) (w' : World) : Prop := ∃ N : Nat, e = .returned (.tuple #[.int .i64 n, .iface 76 (.pointer (some ⟨N, 0, none⟩))]) ∧ Below w.heap.size w w'
theorem Atoi_bad (s : ByteArray) (hs : s.size ≤ 1000000) (h : ∀ v, Lib.atoiAll s.data.toList ≠ .ok v) : ∃ n : Int, (n < 1 ∨ 1000000000 ≤ n) ∧ ∀ w, NumV w → Calls Tryd.prog 23 #[.string s] w (AtBad n w) := by
  rcases hA : Lib.atoiAll s.data.toList with v | _ | _
  · exact absurd hA (h v)
  · refine ⟨0, .inl (by omega), fun w hV => ?_⟩
    obtain ⟨ev, h1, h2⟩ := hV.1.2.2
    refine (Any.strconv_Atoi_syntax Tryd.laysC172 s (by omega) hA ev w h1 h2).mono ?_
    rintro e w' ⟨N, rfl, -, -, hb⟩
    exact ⟨N, rfl, hb⟩
  · refine ⟨Lib.atoiSat s.data.toList, by unfold Lib.atoiSat; split <;> omega, fun w hV => ?_⟩
    obtain ⟨ev, h1, h2⟩ := hV.1.2.1
    refine (Any.strconv_Atoi_range Tryd.laysC172 s (by omega) hA ev w h1 h2).mono ?_
    rintro e w' ⟨N, rfl, -, -, hb⟩
    exact ⟨N, rfl, hb⟩
def RdSays (t : ByteArray) (w : World) (e : Ending) (w' : World) : Prop := e = .returned (NM.rdV t) ∧ Below w.heap.size w w'
theorem results_tmp4N {fn : Func} {t u v x : Tmp} (h : fn.results = #[.tmp t, .tmp u, .tmp v, .tmp x]) (tmps : Array Value) (P : Program) (w : World) :
    (results fn tmps).run P w = .ok (.tuple #[tmps.getD t undef, tmps.getD u undef, tmps.getD v undef, tmps.getD x undef]) w := by
  simp [results, h]
set_option maxHeartbeats 4000000 in
theorem ReadNumber_any (t : ByteArray) (ht : t.size ≤ 1000) (w : World) (hV : NumV w) : Calls Tryd.prog 9 #[.string t] w (RdSays t w) := by
  unfold RdSays
  have hT := TrimLeft_any t w
  have hle := NM.rest_le t
  have HV := Lib.hid hV
  have hW : IntKind.i64.wrap ((t.size : Int) - ((NM.restS t).size : Nat)) = ((t.size - (NM.restS t).size : Nat) : Int) := by
    rw [show ((t.size - (NM.restS t).size : Nat) : Int) = (t.size : Int) - ((NM.restS t).size : Nat) by omega]
    exact IntWalk.i64_in _ ⟨by omega, by omega⟩
  have hP : t.extract 0 (t.size - (NM.restS t).size) = NM.preS t := rfl
  have hPs : (NM.preS t).size ≤ 1000 := by unfold NM.preS; rw [ByteArray.size_extract]; omega
  have hNu := fun v W hV => Number_any (NM.preS t) (NM.restS t).size v (by omega) W hV
  unfold NumSays at hNu
  by_cases hok : ∃ v, Lib.atoiAll (NM.restS t).data.toList = .ok v
  · obtain ⟨v, hok⟩ := hok
    have hA := fun W => Atoi_good _ (by omega) v hok W
    have hNu := hNu v
    have hG := NM.rdV_good hok
    have hB := NM.rdV_bad hok
    clear hok
    obtain ⟨V, hVe⟩ : ∃ V, NM.rdV t = V := ⟨_, rfl⟩
    rw [hVe] at hG hB ⊢
    clear hVe
    generalize NM.numC (NM.preS t) (NM.restS t).size v = c at *
    generalize NM.numT (NM.preS t) (NM.restS t).size v = T at *
    generalize NM.preS t = P at *
    generalize NM.restS t = R at *
    generalize hk : t.size - R.size = k at *
    have i1 : (k : Int) ≤ (t.size : Int) := by omega
    have i2 : (0 : Int) ≤ (k : Int) := by omega
    by_cases hc : c = 0
    · subst hc
      by_cases hTt : T = t
      · subst hTt
        rw [hG rfl rfl]
        have q2 : (T.toList == T.toList) = true := by simp
        clear hG hB hV hk hle hPs
        go_enter Tryd.func9, Tryd.ntmps9
        go_wp2_with fail
        refine hT.mono ?_
        rintro e w1 ⟨rfl, hb1⟩
        have HB1 := Lib.hid hb1
        have hA1 := hA w1
        clear hT hb1 hA
        go_wp2_with fail
        refine hA1.mono ?_
        rintro e w2 ⟨rfl, hb2⟩
        have HB2 := Lib.hid (HB1.out.trans (hb2.mono HB1.out.size))
        have hN2 := hNu w2 (HV.out.belowW HB2.out)
        clear hA1 hb2 hNu
        go_wp2_with fail
        refine hN2.mono ?_
        rintro e w3 ⟨rfl, hb3⟩
        have HB3 := Lib.hid (HB2.out.trans (hb3.mono HB2.out.size))
        clear hN2 hb3
        go_wp2_with fail
        refine bodyPost_ret (results_tmp4N rfl _ _ _) rfl ?_
        exact ⟨rfl, HB3.out⟩
      · rw [hB (fun h => hTt h.2)]
        have q2 : (T.toList == t.toList) = false := by rw [Lib.toList_data, Lib.toList_data, beq_eq_false_iff_ne]; intro h; exact hTt (ByteArray.ext (Array.toList_inj.1 h))
        clear hG hB hV hk hle hPs hTt
        go_enter Tryd.func9, Tryd.ntmps9
        go_wp2_with fail
        refine hT.mono ?_
        rintro e w1 ⟨rfl, hb1⟩
        have HB1 := Lib.hid hb1
        have hA1 := hA w1
        clear hT hb1 hA
        go_wp2_with fail
        refine hA1.mono ?_
        rintro e w2 ⟨rfl, hb2⟩
        have HB2 := Lib.hid (HB1.out.trans (hb2.mono HB1.out.size))
        have hN2 := hNu w2 (HV.out.belowW HB2.out)
        clear hA1 hb2 hNu
        go_wp2_with fail
        refine hN2.mono ?_
        rintro e w3 ⟨rfl, hb3⟩
        have HB3 := Lib.hid (HB2.out.trans (hb3.mono HB2.out.size))
        clear hN2 hb3
        go_wp2_with fail
        refine bodyPost_ret (results_tmp4N rfl _ _ _) rfl ?_
        exact ⟨rfl, HB3.out⟩
    · rw [hB (fun h => hc h.1)]
      clear hG hB hV hk hle hPs
      go_enter Tryd.func9, Tryd.ntmps9
      go_wp2_with fail
      refine hT.mono ?_
      rintro e w1 ⟨rfl, hb1⟩
      have HB1 := Lib.hid hb1
      have hA1 := hA w1
      clear hT hb1 hA
      go_wp2_with fail
      refine hA1.mono ?_
      rintro e w2 ⟨rfl, hb2⟩
      have HB2 := Lib.hid (HB1.out.trans (hb2.mono HB1.out.size))
      have hN2 := hNu w2 (HV.out.belowW HB2.out)
      clear hA1 hb2 hNu
      go_wp2_with fail
      refine hN2.mono ?_
      rintro e w3 ⟨rfl, hb3⟩
      have HB3 := Lib.hid (HB2.out.trans (hb3.mono HB2.out.size))
      clear hN2 hb3
      go_wp2_with fail
      refine bodyPost_ret (results_tmp4N rfl _ _ _) rfl ?_
      exact ⟨rfl, HB3.out⟩
  · have hok : ∀ v, Lib.atoiAll (NM.restS t).data.toList ≠ .ok v := fun v h => hok ⟨v, h⟩
    rw [NM.rdV_none hok]
    obtain ⟨n, -, hA⟩ := Atoi_bad _ (by omega) hok
    have hNu := hNu n
    generalize NM.numC (NM.preS t) (NM.restS t).size n = c at *
    generalize NM.numT (NM.preS t) (NM.restS t).size n = T at *
    generalize NM.preS t = P at *
    generalize NM.restS t = R at *
    generalize hk : t.size - R.size = k at *
    have i1 : (k : Int) ≤ (t.size : Int) := by omega
    have i2 : (0 : Int) ≤ (k : Int) := by omega
    clear hok hk hle hPs hV
    go_enter Tryd.func9, Tryd.ntmps9
    go_wp2_with fail
    refine hT.mono ?_
    rintro e w1 ⟨rfl, hb1⟩
    have HB1 := Lib.hid hb1
    have hA1 := hA w1 (HV.out.belowW HB1.out)
    clear hT hb1 hA
    go_wp2_with fail
    refine hA1.mono ?_
    rintro e w2 ⟨N, rfl, hb2⟩
    have HB2 := Lib.hid (HB1.out.trans (hb2.mono HB1.out.size))
    have hN2 := hNu w2 (HV.out.belowW HB2.out)
    clear hA1 hb2 hNu
    go_wp2_with fail
    refine hN2.mono ?_
    rintro e w3 ⟨rfl, hb3⟩
    have HB3 := Lib.hid (HB2.out.trans (hb3.mono HB2.out.size))
    clear hN2 hb3
    go_wp2_with fail
    refine bodyPost_ret (results_tmp4N rfl _ _ _) rfl ?_
    exact ⟨rfl, HB3.out⟩
set_option maxHeartbeats 4000000 in
theorem NumberFrom_any (t : ByteArray) (ht : t.size ≤ 1000) (w : World) (hV : NumV w) : Calls Tryd.prog 10 #[.string t] w (RdSays t w) := by
  unfold RdSays
  have hT := TrimLeft_any t w
  have hle := NM.rest_le t
  have HV := Lib.hid hV
  have hW : IntKind.i64.wrap ((t.size : Int) - ((NM.restS t).size : Nat)) = ((t.size - (NM.restS t).size : Nat) : Int) := by
    rw [show ((t.size - (NM.restS t).size : Nat) : Int) = (t.size : Int) - ((NM.restS t).size : Nat) by omega]
    exact IntWalk.i64_in _ ⟨by omega, by omega⟩
  have hP : t.extract 0 (t.size - (NM.restS t).size) = NM.preS t := rfl
  have hPs : (NM.preS t).size ≤ 1000 := by unfold NM.preS; rw [ByteArray.size_extract]; omega
  have hNu := fun v W hV => NumberOf_any (NM.preS t) (NM.restS t).size v (by omega) W hV
  have hM := fun b hb W => made_any (NM.restS t) NM.figS b hb (by omega) (by decide) (by decide) W
  unfold NM.figS at hM
  unfold NumSays at hNu
  by_cases h9 : (NM.restS t).size ≤ 9
  · have i9 : ((NM.restS t).size : Int) ≤ 9 := by omega
    cases hm : NM.madeB (NM.restS t) NM.figS
    · have hM := hM false (by rw [← hm]; rfl)
      rw [NM.rdV_unmade (fun h => by rw [hm] at h; exact Bool.noConfusion h.2)]
      generalize NM.preS t = P at *
      generalize NM.restS t = R at *
      generalize hk : t.size - R.size = k at *
      have i1 : (k : Int) ≤ (t.size : Int) := by omega
      have i2 : (0 : Int) ≤ (k : Int) := by omega
      clear hm hk hle hPs hV hNu
      go_enter Tryd.func10, Tryd.ntmps10
      go_wp2_with fail
      refine hT.mono ?_
      rintro e w1 ⟨rfl, hb1⟩
      have HB1 := Lib.hid hb1
      have hM1 := hM w1
      clear hT hb1 hM
      go_wp2_with fail
      refine hM1.mono ?_
      rintro e w4 ⟨rfl, hb4⟩
      have HB4 := Lib.hid (HB1.out.trans (hb4.mono HB1.out.size))
      clear hM1 hb4
      go_wp2_with fail
      refine bodyPost_ret (results_tmp4N rfl _ _ _) rfl ?_
      exact ⟨rfl, HB4.out⟩
    · have hM := hM true (by rw [← hm]; rfl)
      by_cases hok : ∃ v, Lib.atoiAll (NM.restS t).data.toList = .ok v
      · obtain ⟨v, hok⟩ := hok
        have hA := fun W => Atoi_good _ (by omega) v hok W
        have hNu := hNu v
        have hG := NM.rdV_good hok
        have hB := NM.rdV_bad hok
        clear hok
        obtain ⟨V, hVe⟩ : ∃ V, NM.rdV t = V := ⟨_, rfl⟩
        rw [hVe] at hG hB ⊢
        clear hVe
        generalize NM.numC (NM.preS t) (NM.restS t).size v = c at *
        generalize NM.numT (NM.preS t) (NM.restS t).size v = T at *
        generalize NM.preS t = P at *
        generalize NM.restS t = R at *
        generalize hk : t.size - R.size = k at *
        have i1 : (k : Int) ≤ (t.size : Int) := by omega
        have i2 : (0 : Int) ≤ (k : Int) := by omega
        by_cases hc : c = 0
        · subst hc
          by_cases hTt : T = t
          · subst hTt
            rw [hG rfl rfl]
            have q2 : (T.toList == T.toList) = true := by simp
            clear hG hB hV hk hle hPs hm
            go_enter Tryd.func10, Tryd.ntmps10
            go_wp2_with fail
            refine hT.mono ?_
            rintro e w1 ⟨rfl, hb1⟩
            have HB1 := Lib.hid hb1
            have hM1 := hM w1
            clear hT hb1 hM
            go_wp2_with fail
            refine hM1.mono ?_
            rintro e w4 ⟨rfl, hb4⟩
            have HB4 := Lib.hid (HB1.out.trans (hb4.mono HB1.out.size))
            have hA1 := hA w4
            clear hM1 hb4 hA
            go_wp2_with fail
            refine hA1.mono ?_
            rintro e w2 ⟨rfl, hb2⟩
            have HB2 := Lib.hid (HB4.out.trans (hb2.mono HB4.out.size))
            have hN2 := hNu w2 (HV.out.belowW HB2.out)
            clear hA1 hb2 hNu
            go_wp2_with fail
            refine hN2.mono ?_
            rintro e w3 ⟨rfl, hb3⟩
            have HB3 := Lib.hid (HB2.out.trans (hb3.mono HB2.out.size))
            clear hN2 hb3
            go_wp2_with fail
            refine bodyPost_ret (results_tmp4N rfl _ _ _) rfl ?_
            exact ⟨rfl, HB3.out⟩
          · rw [hB (fun h => hTt h.2)]
            have q2 : (T.toList == t.toList) = false := by rw [Lib.toList_data, Lib.toList_data, beq_eq_false_iff_ne]; intro h; exact hTt (ByteArray.ext (Array.toList_inj.1 h))
            clear hG hB hV hk hle hPs hTt hm
            go_enter Tryd.func10, Tryd.ntmps10
            go_wp2_with fail
            refine hT.mono ?_
            rintro e w1 ⟨rfl, hb1⟩
            have HB1 := Lib.hid hb1
            have hM1 := hM w1
            clear hT hb1 hM
            go_wp2_with fail
            refine hM1.mono ?_
            rintro e w4 ⟨rfl, hb4⟩
            have HB4 := Lib.hid (HB1.out.trans (hb4.mono HB1.out.size))
            have hA1 := hA w4
            clear hM1 hb4 hA
            go_wp2_with fail
            refine hA1.mono ?_
            rintro e w2 ⟨rfl, hb2⟩
            have HB2 := Lib.hid (HB4.out.trans (hb2.mono HB4.out.size))
            have hN2 := hNu w2 (HV.out.belowW HB2.out)
            clear hA1 hb2 hNu
            go_wp2_with fail
            refine hN2.mono ?_
            rintro e w3 ⟨rfl, hb3⟩
            have HB3 := Lib.hid (HB2.out.trans (hb3.mono HB2.out.size))
            clear hN2 hb3
            go_wp2_with fail
            refine bodyPost_ret (results_tmp4N rfl _ _ _) rfl ?_
            exact ⟨rfl, HB3.out⟩
        · rw [hB (fun h => hc h.1)]
          clear hG hB hV hk hle hPs hm
          go_enter Tryd.func10, Tryd.ntmps10
          go_wp2_with fail
          refine hT.mono ?_
          rintro e w1 ⟨rfl, hb1⟩
          have HB1 := Lib.hid hb1
          have hM1 := hM w1
          clear hT hb1 hM
          go_wp2_with fail
          refine hM1.mono ?_
          rintro e w4 ⟨rfl, hb4⟩
          have HB4 := Lib.hid (HB1.out.trans (hb4.mono HB1.out.size))
          have hA1 := hA w4
          clear hM1 hb4 hA
          go_wp2_with fail
          refine hA1.mono ?_
          rintro e w2 ⟨rfl, hb2⟩
          have HB2 := Lib.hid (HB4.out.trans (hb2.mono HB4.out.size))
          have hN2 := hNu w2 (HV.out.belowW HB2.out)
          clear hA1 hb2 hNu
          go_wp2_with fail
          refine hN2.mono ?_
          rintro e w3 ⟨rfl, hb3⟩
          have HB3 := Lib.hid (HB2.out.trans (hb3.mono HB2.out.size))
          clear hN2 hb3
          go_wp2_with fail
          refine bodyPost_ret (results_tmp4N rfl _ _ _) rfl ?_
          exact ⟨rfl, HB3.out⟩
      · have hok : ∀ v, Lib.atoiAll (NM.restS t).data.toList ≠ .ok v := fun v h => hok ⟨v, h⟩
        rw [NM.rdV_none hok]
        obtain ⟨n, hn, hA⟩ := Atoi_bad _ (by omega) hok
        have hNu := hNu n
        have hc : NM.numC (NM.preS t) (NM.restS t).size n ≠ 0 := NM.numC_far hn
        generalize NM.numC (NM.preS t) (NM.restS t).size n = c at *
        generalize NM.numT (NM.preS t) (NM.restS t).size n = T at *
        generalize NM.preS t = P at *
        generalize NM.restS t = R at *
        generalize hk : t.size - R.size = k at *
        have i1 : (k : Int) ≤ (t.size : Int) := by omega
        have i2 : (0 : Int) ≤ (k : Int) := by omega
        clear hok hk hle hPs hV hm hn
        go_enter Tryd.func10, Tryd.ntmps10
        go_wp2_with fail
        refine hT.mono ?_
        rintro e w1 ⟨rfl, hb1⟩
        have HB1 := Lib.hid hb1
        have hM1 := hM w1
        clear hT hb1 hM
        go_wp2_with fail
        refine hM1.mono ?_
        rintro e w4 ⟨rfl, hb4⟩
        have HB4 := Lib.hid (HB1.out.trans (hb4.mono HB1.out.size))
        have hA1 := hA w4 (HV.out.belowW HB4.out)
        clear hM1 hb4 hA
        go_wp2_with fail
        refine hA1.mono ?_
        rintro e w2 ⟨N, rfl, hb2⟩
        have HB2 := Lib.hid (HB4.out.trans (hb2.mono HB4.out.size))
        have hN2 := hNu w2 (HV.out.belowW HB2.out)
        clear hA1 hb2 hNu
        go_wp2_with fail
        refine hN2.mono ?_
        rintro e w3 ⟨rfl, hb3⟩
        have HB3 := Lib.hid (HB2.out.trans (hb3.mono HB2.out.size))
        clear hN2 hb3
        go_wp2_with fail
        refine bodyPost_ret (results_tmp4N rfl _ _ _) rfl ?_
        exact ⟨rfl, HB3.out⟩
  · have i9 : decide (((NM.restS t).size : Int) ≤ 9) = false := decide_eq_false (by omega)
    rw [NM.rdV_unmade (fun h => h9 h.1)]
    generalize NM.preS t = P at *
    generalize NM.restS t = R at *
    generalize hk : t.size - R.size = k at *
    have i1 : (k : Int) ≤ (t.size : Int) := by omega
    have i2 : (0 : Int) ≤ (k : Int) := by omega
    clear hk hle hPs hV hNu hM h9
    go_enter Tryd.func10, Tryd.ntmps10
    go_wp2_with fail
    refine hT.mono ?_
    rintro e w1 ⟨rfl, hb1⟩
    have HB1 := Lib.hid hb1
    clear hT hb1
    go_wp2_with fail
    refine bodyPost_ret (results_tmp4N rfl _ _ _) rfl ?_
    exact ⟨rfl, HB1.out⟩
end Go.Proofs.YtppbjekfagnleaaDoor
