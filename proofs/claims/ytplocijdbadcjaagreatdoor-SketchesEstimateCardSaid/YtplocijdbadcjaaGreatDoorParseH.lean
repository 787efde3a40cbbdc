/- ParseUint of sixteen hexadecimal digits, base 16, 64 bits. -/
import Derived.Test.YtplocijdbadcjaaGreatDoorConv
import Derived.Deep.Cut
namespace Go.Proofs.YtplocijdbadcjaaGreatDoor
open Go.RowKit

theorem hexN_get (h : Nat) : ∀ n j, j < n → (QM.hexN n h)[j]? = some (QM.hexd (h / 16 ^ (n - 1 - j) % 16))
  | 0, j, hj => by omega
  | n + 1, 0, _ => by rw [QM.hexN_cons]; rfl
  | n + 1, j + 1, hj => by
    rw [QM.hexN_cons, List.getElem?_cons_succ, hexN_get h n j (by omega)]
    rw [show n + 1 - 1 - (j + 1) = n - 1 - j by omega]
theorem hexd_dig : ∀ d : Fin 16, (d.val < 10 → (QM.hexd d.val).toNat = 48 + d.val) ∧ (10 ≤ d.val → (QM.hexd d.val).toNat = 87 + d.val ∧ (lw (QM.hexd d.val)).toNat = 87 + d.val) := by decide +kernel
theorem ph_step (h j : Nat) (hj : j < 16) : h / 16 ^ (16 - (j + 1)) = (h / 16 ^ (16 - j)) * 16 + h / 16 ^ (15 - j) % 16 := by
  have e1 : 16 - j = (15 - j) + 1 := by omega
  have e2 : 16 - (j + 1) = 15 - j := by omega
  rw [e1, e2, Nat.pow_succ, ← Nat.div_div_eq_div_mul]
  generalize h / 16 ^ (15 - j) = a
  omega
theorem ph_lt (h j : Nat) (hh : h < 18446744073709551616) (hj : j < 16) : h / 16 ^ (16 - j) < 1152921504606846976 := by
  have e1 : 16 - j = (15 - j) + 1 := by omega
  rw [e1, Nat.pow_succ, ← Nat.div_div_eq_div_mul]
  have := Nat.div_le_self h (16 ^ (15 - j))
  omega
def PhRel (h : Nat) (u n i : Value) : Prop := ∃ j m : Nat, u = .bool false ∧ i = .int .i64 j ∧ n = .int .u64 m ∧ j ≤ 16 ∧ Hid (m = h / 16 ^ (16 - j))
set_option maxRecDepth 1000000 in
set_option maxHeartbeats 2000000 in
theorem ParseH_in (h : Nat) (hh : h < 18446744073709551616) (w : World) :
    Calls Tryz.prog 51 #[.string ⟨(QM.hexN 16 h).toArray⟩, .int .i64 16, .int .i64 64] w fun e w' => e = .returned (.tuple #[.int .u64 h, .nilIface]) ∧ Below w.heap.size w w' := by
  have hxl : (QM.hexN 16 h).length = 16 := QM.hexN_len 16 h
  obtain ⟨W1, cap, hrun, hb1, hcell⟩ := conv_str ⟨(QM.hexN 16 h).toArray⟩ w
  have HC : Hid (∀ j, j < 16 → W1.cell? ⟨w.heap.size, j, none⟩ = some (.int .u8 (QM.hexd (h / 16 ^ (15 - j) % 16)).toNat)) := fun j hj => hcell j _ (by simpa using hexN_get h 16 j hj)
  have hne : (⟨(QM.hexN 16 h).toArray⟩ : ByteArray).toList.isEmpty = false := by
    rw [ByteArray.toList_eq]
    show (QM.hexN 16 h).toArray.toList.isEmpty = false
    rw [List.toList_toArray]
    cases hq : QM.hexN 16 h with
    | nil => rw [hq] at hxl; cases hxl
    | cons a l => rfl
  have hsz : (⟨(QM.hexN 16 h).toArray⟩ : ByteArray).size = 16 := by show (QM.hexN 16 h).toArray.size = 16; rw [List.size_toArray]; exact hxl
  rw [hsz] at hrun
  generalize (⟨(QM.hexN 16 h).toArray⟩ : ByteArray) = s at *
  have Hb1 := Lib.hid hb1
  have HH := Lib.hid hh
  have hmx : IntKind.u64.wrap (IntKind.u64.wrap 18446744073709551616 - 1) = 18446744073709551615 := by decide +kernel
  clear hb1 hcell hxl hh hsz
  go_enter Tryz.func51, Tryz.ntmps51
  go_wp2_with fail
  go_loop [12, 13, 101] (fun u n i => PhRel h u n i) (fun _ _ i => 16 - (intOf i).toNat)
  case atStart => exact ⟨0, 0, rfl, rfl, rfl, by omega, by show _ = _; rw [Nat.div_eq_of_lt]; exact HH.out⟩
  case round =>
    obtain ⟨j, m, rfl, rfl, rfl, hj, HM⟩ := hrel
    by_cases hlt : j < 16
    · have hc := HC.out j hlt
      have hm : m < 1152921504606846976 := by rw [HM.out]; exact ph_lt h j HH.out hlt
      obtain ⟨d, hd⟩ : ∃ d : Fin 16, d.val = h / 16 ^ (15 - j) % 16 := ⟨⟨_, Nat.mod_lt _ (by omega)⟩, rfl⟩
      have HS : Hid (m * 16 + d.val = h / 16 ^ (16 - (j + 1))) := by show _ = _; rw [hd, HM.out, ph_step h j hlt]
      rw [← hd] at hc
      have hdl := d.isLt
      have hdd := hexd_dig d
      have hlow := lowerC_any (QM.hexd d.val)
      generalize QM.hexd d.val = c at *
      generalize d.val = e at *
      clear HM hd
      by_cases hA : e < 10
      · have hx := hdd.1 hA
        rw [hx] at hc
        clear hdd hlow hx
        have hcut : ¬ (1152921504606846976 ≤ (m : Int)) := by omega
        go_wp2_with fail
        exact ⟨⟨j + 1, m * 16 + e, rfl, rfl, congrArg (Value.int .u64) (by omega), by omega, HS.out⟩, by simp [intOf]; omega⟩
      · obtain ⟨hx, hy⟩ := hdd.2 (by omega)
        rw [hx] at hc
        rw [hx, hy] at hlow
        obtain ⟨x, hxe⟩ : ∃ x, 87 + e = x := ⟨_, rfl⟩
        rw [hxe] at hc hlow
        have hx1 : 97 ≤ x := by omega
        have hx2 : x ≤ 102 := by omega
        have HX : Hid (e = x - 87) := by show _ = _; omega
        have HL := Lib.hid hlow
        clear hlow hdd hx hy hA hdl hxe
        have h95 : ((x : Int) == 95) = false := beq_eq_false_iff_ne.2 (by omega)
        go_upto_region 48 with ((with_reducible refine (HL.out _).mono ?_); rintro en w1 ⟨rfl, rfl⟩)
        generalize hD : (x : Int) - 97 + 10 = D at *
        obtain ⟨dd, rfl⟩ := Int.eq_ofNat_of_zero_le (show 0 ≤ D by omega)
        have hd15 : dd ≤ 15 := by omega
        have HS' : Hid (m * 16 + dd = h / 16 ^ (16 - (j + 1))) := by show _ = _; rw [← HS.out, HX.out]; omega
        clear hD hx1 hx2
        have hcut : ¬ (1152921504606846976 ≤ (m : Int)) := by omega
        go_wp2_with fail
        exact ⟨⟨j + 1, m * 16 + dd, rfl, rfl, congrArg (Value.int .u64) (by omega), by omega, HS'.out⟩, by simp [intOf]; omega⟩
    · have hj2 : j = 16 := by omega
      subst hj2
      have e := HM.out
      rw [Nat.sub_self, Nat.pow_zero, Nat.div_one] at e
      subst e
      go_wp2_with fail
      go_ret2
      exact ⟨rfl, Hb1.out⟩
theorem ParseH_any (h : Nat) (hh : h < 18446744073709551616) (w : World) :
    Calls Tryz.prog 36 #[.string ⟨(QM.hexN 16 h).toArray⟩, .int .i64 16, .int .i64 64] w fun e w' => e = .returned (.tuple #[.int .u64 h, .nilIface]) ∧ Below w.heap.size w w' := by
  go_enter Tryz.func36, Tryz.ntmps36
  go_wp2_with fail
  refine (ParseH_in h hh w).mono ?_
  rintro en w1 ⟨rfl, hb⟩
  go_wp2_with fail
  go_ret2
  exact ⟨rfl, hb⟩
end Go.Proofs.YtplocijdbadcjaaGreatDoor
