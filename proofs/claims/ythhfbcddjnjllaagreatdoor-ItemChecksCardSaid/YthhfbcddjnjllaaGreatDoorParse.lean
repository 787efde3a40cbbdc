/- Contract of ParseUint at two bytes, base 16, 8 bits. -/
import Derived.Test.YthhfbcddjnjllaaGreatDoorQSmall
import Derived.Test.YthhfbcddjnjllaaGreatDoorShelf
namespace Go.Proofs.YthhfbcddjnjllaaGreatDoor
open Go.RowKit

def lw (c : UInt8) : UInt8 := c ||| 32
theorem lw_bits : ∀ c : UInt8, bits BinOp.or IntKind.u8 (c.toNat : Int) 32 = ((lw c).toNat : Int) := by
  apply QM.all_u8; decide +kernel
set_option maxHeartbeats 400000 in
theorem lower_any (c : UInt8) (w : World) :
    Calls Tryz.prog 286 #[.int .u8 c.toNat] w fun e w' => e = .returned (.int .u8 (lw c).toNat) ∧ w = w' := by
  have hb := lw_bits c
  go_enter Tryz.func286, Tryz.ntmps286
  go_wp2
  go_ret
  exact ⟨rfl, rfl⟩

/-- a string turned into a row of bytes -/
theorem conv_str (s : ByteArray) (w : World) : ∃ (W : World) (cap : Nat), (convert 9 178 (.string s)).run Tryz.prog w = .ok (.slice (some ⟨w.heap.size, 0, none⟩) s.size cap) W ∧ Below w.heap.size w W ∧
    (∀ j u, s.data.toList[j]? = some u → W.cell? ⟨w.heap.size, j, none⟩ = some (.int .u8 u.toNat)) := by
  refine ⟨_, _, run_bytes_of_string w 9 178 5 s Tryz.underlying9 Tryz.underlying178 Tryz.underlying5, ((Below.refl _ _).drew).alloc (by simp) _, ?_⟩
  intro j u hj
  have e : (w.drew.alloc (.cells (bytesRow s (grownCap w s.size 0 5)) 5 ((bytesRow s (grownCap w s.size 0 5)).size, (bytesRow s (grownCap w s.size 0 5)).size + 1))).heap[w.heap.size]? = some (.cells (bytesRow s (grownCap w s.size 0 5)) 5 ((bytesRow s (grownCap w s.size 0 5)).size, (bytesRow s (grownCap w s.size 0 5)).size + 1)) := heap_alloc_new w.drew _
  rw [cell_of_row _ _ j _ _ _ e]
  have hlt : j < s.data.toList.length := by
    rcases Nat.lt_or_ge j s.data.toList.length with h | h
    · exact h
    · rw [List.getElem?_eq_none h] at hj; cases hj
  rw [List.getElem?_eq_getElem hlt] at hj
  injection hj with hj
  subst hj
  simp at hlt
  simp [bytesRow, Array.getElem?_append, hlt]

def lwn (x : Nat) : Nat := (lw (UInt8.ofNat x)).toNat
theorem lower_nat (x : Nat) (hx : x < 256) (w : World) :
    Calls Tryz.prog 286 #[.int .u8 x] w fun e w' => e = .returned (.int .u8 (lwn x)) ∧ w = w' := by
  have h := lower_any (UInt8.ofNat x) w
  have e : (UInt8.ofNat x).toNat = x := by simp; omega
  rw [e] at h
  exact h
theorem lwn_hex : ∀ c : UInt8, 97 ≤ c.toNat → c.toNat ≤ 102 → lwn c.toNat = c.toNat := by
  apply QM.all_u8; decide +kernel
theorem unhex_dig {c : UInt8} {x a : Nat} (hx : c.toNat = x) (h1 : 48 ≤ x) (h2 : x ≤ 57) (h : QM.unhex c = some a) : x - 48 = a := by
  unfold QM.unhex at h
  rw [if_pos (by omega)] at h
  injection h with h
  omega
theorem unhex_low {c : UInt8} {x a : Nat} (hx : c.toNat = x) (h1 : ¬ (48 ≤ x ∧ x ≤ 57)) (h : QM.unhex c = some a) : 97 ≤ lwn x ∧ lwn x ≤ 102 ∧ lwn x - 87 = a := by
  subst hx
  unfold QM.unhex at h
  rw [if_neg h1] at h
  split at h
  · rename_i h2
    have := lwn_hex c h2.1 h2.2
    injection h with h
    omega
  · cases h
theorem unhex_none {c : UInt8} {x : Nat} (hx : c.toNat = x) (h1 : ¬ (48 ≤ x ∧ x ≤ 57)) (h : ¬ (97 ≤ lwn x ∧ lwn x ≤ 102)) : QM.unhex c = none := by
  cases hu : QM.unhex c with
  | none => rfl
  | some a => have := unhex_low hx h1 hu; omega
theorem pu_meas {j : Nat} (h : j < 2) : 2 - (intOf (.int .i64 ((j : Int) + 1))).toNat < 2 - (intOf (.int .i64 (j : Int))).toNat := by simp [intOf]; omega
/-- what the inner ParseUint answers at two bytes d, e -/
def PuIn (d e : UInt8) (w : World) (en : Ending) (w' : World) : Prop := ∃ (n : Nat) (err : Value), n ≤ 255 ∧ en = .returned (.tuple #[.int .u64 n, err]) ∧ Below w.heap.size w w' ∧
  (err = .nilIface ∨ err = .iface 298 (.int .i64 2)) ∧ (∀ a b, QM.unhex d = some a → QM.unhex e = some b → n = 16 * a + b)
def PuRel (d e : UInt8) (u n i : Value) : Prop := ∃ (j m : Nat), u = .bool false ∧ i = .int .i64 j ∧ n = .int .u64 m ∧ j ≤ 2 ∧ (j = 0 → m = 0) ∧ (j = 1 → m ≤ 15) ∧ m ≤ 255 ∧ (j = 1 → ∀ a, QM.unhex d = some a → m = a) ∧
  (j = 2 → ∀ a b, QM.unhex d = some a → QM.unhex e = some b → m = 16 * a + b)
theorem unhex_le {c : UInt8} {a : Nat} (h : QM.unhex c = some a) : a ≤ 15 := by
  unfold QM.unhex at h
  split at h
  · injection h with h; omega
  split at h
  · injection h with h; omega
  · cases h
theorem pu_step {d e c : UInt8} {j m dd : Nat} {n : Int} (hj : j < 2) (hc0 : j = 0 → c = d) (hc1 : j = 1 → c = e) (h0 : j = 0 → m = 0) (h15 : m ≤ 15) (h3 : j = 1 → ∀ a, QM.unhex d = some a → m = a)
    (hd : dd ≤ 15) (hu : ∀ a, QM.unhex c = some a → dd = a) (hn : n = ((m * 16 + dd : Nat) : Int)) : PuRel d e (.bool false) (.int .u64 n) (.int .i64 ((j : Int) + 1)) := by
  subst hn
  refine ⟨j + 1, m * 16 + dd, rfl, rfl, rfl, by omega, fun h => by omega, fun h => ?_, by omega, fun h a ha => ?_, fun h a b ha hb => ?_⟩
  · have := h0 (by omega); omega
  · have h5 : j = 0 := by omega
    have h6 := h0 h5
    have h7 := hu a (by rw [hc0 h5]; exact ha)
    omega
  · have h5 : j = 1 := by omega
    have h6 := h3 h5 a ha
    have h7 := hu b (by rw [hc1 h5]; exact hb)
    omega
theorem pu_bad {d e c : UInt8} {j : Nat} {w w1 : World} (hj : j < 2) (hc0 : j = 0 → c = d) (hc1 : j = 1 → c = e) (hu : QM.unhex c = none) (hb : Hid (Below w.heap.size w w1)) :
    PuIn d e w (.returned (.tuple #[.int .u64 0, .iface 298 (.int .i64 2)])) w1 := by
  refine ⟨0, _, by omega, rfl, hb.out, .inr rfl, fun a b ha hb => ?_⟩
  have h : j = 0 ∨ j = 1 := by omega
  rcases h with h | h
  · rw [hc0 h, ha] at hu; cases hu
  · rw [hc1 h, hb] at hu; cases hu
theorem pu_good {d e : UInt8} {m : Nat} {w w1 : World} (h2 : m ≤ 255) (h4 : ∀ a b, QM.unhex d = some a → QM.unhex e = some b → m = 16 * a + b) (hb : Hid (Below w.heap.size w w1)) :
    PuIn d e w (.returned (.tuple #[.int .u64 m, .nilIface])) w1 := ⟨m, _, h2, rfl, hb.out, .inl rfl, h4⟩

set_option maxRecDepth 1000000 in
set_option maxHeartbeats 2000000 in
theorem ParseUintIn_any (d e : UInt8) (w : World) :
    Calls Tryz.prog 273 #[.string ⟨#[d, e]⟩, .int .i64 16, .int .i64 8] w (PuIn d e w) := by
  obtain ⟨W1, cap, hrun, hb1, hcell⟩ := conv_str ⟨#[d, e]⟩ w
  have hc0 := hcell 0 d rfl
  have hc1 := hcell 1 e rfl
  clear hcell
  have Hb1 := Lib.hid hb1
  clear hb1
  go_enter Tryz.func273, Tryz.ntmps273
  go_wp2_with fail
  go_loop [12, 13, 101] (fun u n i => PuRel d e u n i) (fun _ _ i => 2 - (intOf i).toNat)
  case atStart => exact ⟨0, 0, rfl, rfl, rfl, by omega, fun _ => rfl, fun _ => by omega, by omega, fun h => by omega, fun h => by omega⟩
  case round =>
    obtain ⟨j, m, rfl, rfl, rfl, hj, h0, h1, h2, h3, h4⟩ := hrel
    by_cases hlt : j < 2
    · obtain ⟨c, hc, hcd, hce⟩ : ∃ c : UInt8, W1.cell? ⟨w.heap.size, j, none⟩ = some (.int .u8 c.toNat) ∧ (j = 0 → c = d) ∧ (j = 1 → c = e) := by
        rcases (by omega : j = 0 ∨ j = 1) with rfl | rfl
        · exact ⟨d, hc0, fun _ => rfl, fun h => by omega⟩
        · exact ⟨e, hc1, fun h => by omega, fun _ => rfl⟩
      have h15 : m ≤ 15 := by
        rcases (by omega : j = 0 ∨ j = 1) with h | h
        · rw [h0 h]; omega
        · exact h1 h
      have H0 := Lib.hid h0
      have H3 := Lib.hid h3
      have Hcd := Lib.hid hcd
      have Hce := Lib.hid hce
      clear h0 h1 h3 h4 hcd hce hc0 hc1
      generalize hx : c.toNat = x at *
      have Hx := Lib.hid hx
      clear hx
      by_cases hA : 48 ≤ x ∧ x ≤ 57
      · have Hu : Hid (∀ a, QM.unhex c = some a → x - 48 = a) := fun a h => unhex_dig Hx.out hA.1 hA.2 h
        obtain ⟨hA1, hA2⟩ := hA
        have hcut : ¬ (1152921504606846976 ≤ (m : Int)) := by omega
        go_wp2_with fail
        exact ⟨pu_step hlt Hcd.out Hce.out H0.out h15 H3.out (dd := x - 48) (by omega) Hu.out (by omega), pu_meas hlt⟩
      · have Hu : Hid (∀ a, QM.unhex c = some a → lwn x - 87 = a) := fun a h => (unhex_low Hx.out hA h).2.2
        have Hn : Hid (¬ (97 ≤ lwn x ∧ lwn x ≤ 102) → QM.unhex c = none) := fun h => unhex_none Hx.out hA h
        have hxl : x < 256 := by have := UInt8.toNat_lt c; rw [Hx.out] at this; exact this
        have H127 : Hid (x = 95 → lwn x = 127) := fun h => by rw [h]; decide
        have HL := Lib.hid (lower_nat x hxl)
        clear hxl
        generalize lwn x = y at *
        by_cases h95 : x = 95
        · have hy := H127.out h95
          have Hn' := Lib.hid (Hn.out (by omega))
          subst h95
          subst hy
          clear hA
          have HL2 := Lib.hid (show ∀ w1 : World, Calls Tryz.prog 286 #[.int .u8 95] w1 fun e w' => e = .returned (.int .u8 127) ∧ w1 = w' from HL.out)
          go_wp2_with ((with_reducible refine (HL2.out _).mono ?_); rintro en w1 ⟨rfl, rfl⟩)
          go_ret2
          exact pu_bad hlt Hcd.out Hce.out Hn'.out Hb1
        have h95' : ((x : Int) == 95) = false := bool_int (by omega)
        clear h95
        by_cases hB : 97 ≤ y ∧ y ≤ 102
        · obtain ⟨hB1, hB2⟩ := hB
          rcases (by omega : x < 48 ∨ 57 < x) with hA1 | hA1
          all_goals clear hA
          · go_upto_region 48 with ((with_reducible refine (HL.out _).mono ?_); rintro en w1 ⟨rfl, rfl⟩)
            generalize hD : (y : Int) - 97 + 10 = D at *
            obtain ⟨dd, rfl⟩ := Int.eq_ofNat_of_zero_le (show 0 ≤ D by omega)
            have hd15 : dd ≤ 15 := by omega
            have Hu' : Hid (∀ a, QM.unhex c = some a → dd = a) := fun a h => by have := Hu.out a h; omega
            clear hD hB1 hB2 hA1
            have hcut : ¬ (1152921504606846976 ≤ (m : Int)) := by omega
            go_wp2_with fail
            exact ⟨pu_step hlt Hcd.out Hce.out H0.out h15 H3.out (dd := dd) hd15 Hu'.out (by omega), pu_meas hlt⟩
          · go_upto_region 48 with ((with_reducible refine (HL.out _).mono ?_); rintro en w1 ⟨rfl, rfl⟩)
            generalize hD : (y : Int) - 97 + 10 = D at *
            obtain ⟨dd, rfl⟩ := Int.eq_ofNat_of_zero_le (show 0 ≤ D by omega)
            have hd15 : dd ≤ 15 := by omega
            have Hu' : Hid (∀ a, QM.unhex c = some a → dd = a) := fun a h => by have := Hu.out a h; omega
            clear hD hB1 hB2 hA1
            have hcut : ¬ (1152921504606846976 ≤ (m : Int)) := by omega
            go_wp2_with fail
            exact ⟨pu_step hlt Hcd.out Hce.out H0.out h15 H3.out (dd := dd) hd15 Hu'.out (by omega), pu_meas hlt⟩
        · have Hn' := Lib.hid (Hn.out hB)
          have hY : y < 97 ∨ (102 < y ∧ y ≤ 122) ∨ 122 < y := by omega
          clear hB
          rcases (by omega : x < 48 ∨ 57 < x) with hA1 | hA1
          all_goals
            clear hA
            rcases hY with hY | ⟨hY1, hY2⟩ | hY
            · go_wp2_with ((with_reducible refine (HL.out _).mono ?_); rintro en w1 ⟨rfl, rfl⟩)
              go_ret2
              exact pu_bad hlt Hcd.out Hce.out Hn'.out Hb1
            · go_wp2_with ((with_reducible refine (HL.out _).mono ?_); rintro en w1 ⟨rfl, rfl⟩)
              go_ret2
              exact pu_bad hlt Hcd.out Hce.out Hn'.out Hb1
            · go_wp2_with ((with_reducible refine (HL.out _).mono ?_); rintro en w1 ⟨rfl, rfl⟩)
              go_ret2
              exact pu_bad hlt Hcd.out Hce.out Hn'.out Hb1
    · have hj2 : j = 2 := by omega
      have h4 := h4 hj2
      have H4 := Lib.hid h4
      clear h0 h1 h3 h4 hc0 hc1
      subst hj2
      go_wp2_with fail
      go_ret2
      exact pu_good h2 H4.out Hb1
end Go.Proofs.YthhfbcddjnjllaaGreatDoor
