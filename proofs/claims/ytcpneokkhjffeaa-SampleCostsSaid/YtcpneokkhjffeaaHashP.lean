/- Contracts of sample.hash and Hash. -/
import Derived.Test.YtcpneokkhjffeaaHashR
import Derived.Test.YtcpneokkhjffeaaKey0
namespace Go.Proofs.Ytcpneokkhjffeaa
open Go.RowKit

theorem bits_xor_u32_nat (a b : Nat) (ha : a < 4294967296) (hb : b < 4294967296) : bits .xor .u32 (a : Int) (b : Int) = ((a ^^^ b : Nat) : Int) := by
  have hx : a ^^^ b < 2 ^ 32 := Nat.xor_lt_two_pow (by omega) (by omega)
  have h1 : (BitVec.ofInt 32 (a : Int)).toNat = a := by
    rw [BitVec.ofInt_natCast, BitVec.toNat_ofNat]; exact Nat.mod_eq_of_lt (by omega)
  have h2 : (BitVec.ofInt 32 (b : Int)).toNat = b := by
    rw [BitVec.ofInt_natCast, BitVec.toNat_ofNat]; exact Nat.mod_eq_of_lt (by omega)
  show IntKind.u32.wrap ((BitVec.ofInt 32 (a : Int) ^^^ BitVec.ofInt 32 (b : Int)).toNat : Int) = _
  rw [BitVec.toNat_xor, h1, h2, IntKind.wrap_u32]
  omega
theorem xor_stepP (h : Nat) (hh : h < 4294967296) (b : UInt8) : IntKind.u32.wrap (bits BinOp.xor IntKind.u32 (h : Int) (IntKind.u32.wrap (b.toNat : Int)) * 16777619) = (SH.stepM h b : Nat) := by
  have hb : b.toNat < 256 := b.toNat_lt
  have e1 : IntKind.u32.wrap (b.toNat : Int) = (b.toNat : Int) := by rw [IntKind.wrap_u32]; omega
  rw [e1, bits_xor_u32_nat h b.toNat hh (by omega), IntKind.wrap_u32]
  unfold SH.stepM
  generalize h ^^^ b.toNat = X
  omega
theorem mix_stepP (h : Nat) (hh : h < 4294967296) : IntKind.u32.wrap (bits BinOp.xor IntKind.u32 (h : Int) ((h : Int) / 32768) * 2246822519) = (SH.mix h : Nat) := by
  rw [show ((h : Int) / 32768) = ((h / 32768 : Nat) : Int) by omega, bits_xor_u32_nat h (h / 32768) hh (by omega), IntKind.wrap_u32]
  unfold SH.mix
  generalize h ^^^ (h / 32768) = X
  omega
theorem last_stepP (h : Nat) (hh : h < 4294967296) : bits BinOp.xor IntKind.u32 (h : Int) ((h : Int) / 8192) = (SH.last h : Nat) := by
  rw [show ((h : Int) / 8192) = ((h / 8192 : Nat) : Int) by omega, bits_xor_u32_nat h (h / 8192) hh (by omega)]
  rfl
def HRelP (s : ByteArray) (h i : Value) : Prop := ∃ k H : Nat, k ≤ s.size ∧ i = .int .i64 k ∧ h = .int .u32 H ∧ Hid (H = SH.fnv (s.data.toList.take k))
def MRelP (F : Nat) (h i : Value) : Prop := ∃ k H : Nat, k ≤ 2 ∧ i = .int .i64 k ∧ h = .int .u32 H ∧ H < 4294967296 ∧ Hid (k = 0 → H = F) ∧ Hid (k = 1 → H = SH.mix F) ∧ Hid (k = 2 → H = SH.mix (SH.mix F))
set_option maxRecDepth 100000 in
set_option maxHeartbeats 4000000 in
theorem hashP_any (id seed : ByteArray) (h1 : id.size ≤ 1000000) (h2 : seed.size ≤ 1000000) (w : World) : Calls Try.prog 25 #[.string id, .string seed] w (HashSays id seed w) := by
  have hsz1 : (seed ++ (⟨#[32]⟩ : ByteArray)).size = seed.size + 1 := ByteArray.size_append
  have hsz : (seed ++ ⟨#[32]⟩ ++ id).size = seed.size + 1 + id.size := by rw [ByteArray.size_append, hsz1]
  have n1 : ¬ 9223372036854775807 < seed.size + (⟨#[32]⟩ : ByteArray).size := by show ¬ _ < _ + 1; omega
  have n2 : ¬ 9223372036854775807 < (seed ++ (⟨#[32]⟩ : ByteArray)).size + id.size := by rw [hsz1]; omega
  obtain ⟨W, cap, hconv, hbW, hcell⟩ := conv_strS (seed ++ ⟨#[32]⟩ ++ id) w
  have HH := Lib.hid (show SH.hash id seed = SH.last (SH.mix (SH.mix (SH.fnv (seed ++ ⟨#[32]⟩ ++ id).data.toList))) from rfl)
  unfold HashSays
  generalize SH.hash id seed = R at *
  go_enter Try.func25, Try.ntmps25
  go_wp2_with fail
  generalize seed ++ ⟨#[32]⟩ ++ id = T at *
  go_loop [5, 14] (fun h i => HRelP T h i) (fun _ i => T.size - (intOf i).toNat)
  case atStart => exact ⟨0, SH.h0, by omega, rfl, rfl, by show _ = _; rw [List.take_zero]; rfl⟩
  case round =>
    obtain ⟨k, H, hk, rfl, rfl, HF⟩ := hrel
    have hH : H < 4294967296 := by rw [HF.out]; exact SH.fnv_lt _
    by_cases hlt : k < T.size
    · have hx := xor_stepP H hH T[k]
      have hc1 := hcell k T[k] (by rw [List.getElem?_eq_getElem (by simpa using hlt)]; simp; rfl)
      have hN := Lib.hid (show SH.stepM H T[k] = SH.fnv (T.data.toList.take (k + 1)) by rw [take_snocR T k hlt, SH.fnv_snoc, ← HF.out])
      go_wp2_with fail
      exact ⟨⟨k + 1, _, by omega, by simp, (by first | exact congrArg (Value.int .u32) hx | (rw [← hx]; simp [IntKind.wrap_u32]) | skip), hN.out⟩, by simp [intOf]; omega⟩
    · have HF2 := Lib.hid (show H = SH.fnv T.data.toList by rw [HF.out, List.take_of_length_le (by simp; omega)])
      clear HF hcell hconv hsz1 n1 n2
      rw [← HF2.out] at HH
      clear HF2
      go_wp2_with fail
      go_loop [5, 24] (fun h i => MRelP H h i) (fun _ i => 2 - (intOf i).toNat)
      case atStart => exact ⟨0, H, by omega, rfl, rfl, hH, Lib.hid fun _ => rfl, Lib.hid fun h => absurd h (by omega), Lib.hid fun h => absurd h (by omega)⟩
      case round =>
        obtain ⟨k2, G, hk2, rfl, rfl, hG, g0, g1, g2⟩ := hrel
        by_cases hlt2 : k2 < 2
        · have hx := mix_stepP G hG
          have hM := SH.mix_lt G
          go_wp2_with fail
          exact ⟨⟨k2 + 1, SH.mix G, by omega, by simp, rfl, hM, Lib.hid fun h => absurd h (by omega), Lib.hid fun h => by rw [g0.out (by omega)], Lib.hid fun h => by rw [g1.out (by omega)]⟩, by simp [intOf]; omega⟩
        · obtain rfl : k2 = 2 := by omega
          have hX := last_stepP G hG
          have hl := SH.last_lt hG
          have hR := Lib.hid (show R = SH.last G by rw [HH.out, ← g2.out rfl])
          have hw64 : wrap64 ((SH.last G : Nat) : Int) = (SH.last G : Nat) := IntWalk.wrap64_in _ ⟨by omega, by omega⟩
          go_wp2_with fail
          go_ret
          exact ⟨by rw [hR.out]; first | rfl | simp, hbW⟩
/-- a number and a code -/
def TwoSays (n c : Int) (w : World) (e : Ending) (w' : World) : Prop := e = .returned (.tuple #[.int .i64 n, .int .i64 c]) ∧ Below w.heap.size w w'
def hashN (id seed : ByteArray) : Nat := if KM.key id.data.toList && KM.key seed.data.toList then SH.hash id seed else 0
def hashC (id seed : ByteArray) : Int := if KM.key id.data.toList && KM.key seed.data.toList then 0 else 5
set_option maxHeartbeats 4000000 in
theorem HashP_any (id seed : ByteArray) (h1 : id.size ≤ 1000000) (h2 : seed.size ≤ 1000000) (w : World) : Calls Try.prog 20 #[.string id, .string seed] w (TwoSays (hashN id seed : Nat) (hashC id seed) w) := by
  have hK1 := fun W => Key_any id (by omega) W
  have hK2 := fun W => Key_any seed (by omega) W
  have hH := fun W => hashP_any id seed h1 h2 W
  unfold hashN hashC
  generalize KM.key id.data.toList = a at *
  generalize KM.key seed.data.toList = b at *
  unfold HashSays at hH
  generalize SH.hash id seed = R at *
  clear h1 h2
  cases a
  · go_enter Try.func20, Try.ntmps20
    go_wp2_with fail
    refine (hK1 _).mono ?_
    rintro e w1 ⟨rfl, q, rfl⟩
    go_wp2_with fail
    go_ret2
    exact ⟨rfl, below_drewN (Below.refl _ _) q⟩
  · cases b
    · go_enter Try.func20, Try.ntmps20
      go_wp2_with fail
      refine (hK1 _).mono ?_
      rintro e w1 ⟨rfl, q, rfl⟩
      go_wp2_with fail
      refine (hK2 _).mono ?_
      rintro e w2 ⟨rfl, q2, rfl⟩
      go_wp2_with fail
      go_ret2
      exact ⟨rfl, below_drewN (Below.refl _ _) (q + q2)⟩
    · go_enter Try.func20, Try.ntmps20
      go_wp2_with fail
      refine (hK1 _).mono ?_
      rintro e w1 ⟨rfl, q, rfl⟩
      go_wp2_with fail
      refine (hK2 _).mono ?_
      rintro e w2 ⟨rfl, q2, rfl⟩
      go_wp2_with fail
      refine (hH _).mono ?_
      rintro e w3 ⟨rfl, hb⟩
      go_wp2_with fail
      go_ret2
      exact ⟨rfl, (below_drewN (Below.refl w.heap.size w) (q + q2)).trans hb⟩
end Go.Proofs.Ytcpneokkhjffeaa
