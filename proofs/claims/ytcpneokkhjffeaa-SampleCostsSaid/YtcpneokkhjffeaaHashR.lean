/- Contract of the reference's HashOf. -/
import Derived.Test.YtcpneokkhjffeaaConvS
import Derived.Laws.Bits64
import Derived.IntWalk
namespace SH
def h0 : Nat := 2166136261
def stepM (h : Nat) (c : UInt8) : Nat := (h ^^^ c.toNat) * 16777619 % 4294967296
def fnv (l : List UInt8) : Nat := l.foldl stepM h0
def mix (h : Nat) : Nat := (h ^^^ (h / 32768)) * 2246822519 % 4294967296
def last (h : Nat) : Nat := h ^^^ (h / 8192)
def hash (id seed : ByteArray) : Nat := last (mix (mix (fnv (seed ++ ⟨#[32]⟩ ++ id).data.toList)))
theorem stepM_lt (h : Nat) (c : UInt8) : stepM h c < 4294967296 := Nat.mod_lt _ (by decide)
theorem mix_lt (h : Nat) : mix h < 4294967296 := Nat.mod_lt _ (by decide)
theorem h0_lt : h0 < 4294967296 := by unfold h0; omega
theorem fold_lt (l : List UInt8) : ∀ h, h < 4294967296 → l.foldl stepM h < 4294967296 := by
  induction l with
  | nil => intro h hh; exact hh
  | cons a l ih => intro h _; exact ih _ (stepM_lt h a)
theorem fnv_lt (l : List UInt8) : fnv l < 4294967296 := by
  have h := fold_lt l h0 h0_lt
  unfold fnv
  exact h
theorem foldl_snoc {α β : Type} (f : α → β → α) (l : List β) (b : β) (a : α) : (l ++ [b]).foldl f a = f (l.foldl f a) b := by rw [List.foldl_append]; rfl
theorem fnv_snoc (l : List UInt8) (b : UInt8) : fnv (l ++ [b]) = stepM (fnv l) b := foldl_snoc stepM l b h0
theorem xor_lt {a b : Nat} (ha : a < 4294967296) (hb : b < 4294967296) : a ^^^ b < 4294967296 := Nat.xor_lt_two_pow (n := 32) ha hb
theorem last_lt {h : Nat} (hh : h < 4294967296) : last h < 4294967296 := by
  have := xor_lt hh (Nat.lt_of_le_of_lt (Nat.div_le_self h 8192) hh)
  unfold last
  exact this
theorem hash_lt (id seed : ByteArray) : hash id seed < 4294967296 := by
  have := last_lt (mix_lt (mix (fnv (seed ++ ⟨#[32]⟩ ++ id).data.toList)))
  unfold hash
  exact this
end SH
namespace Go.Proofs.Ytcpneokkhjffeaa
open Go.RowKit

theorem low_any (n : Nat) (w : World) : Calls Try.prog 28 #[.int .u64 n] w fun e w' => e = .returned (.int .u64 (n % 4294967296 : Nat)) ∧ w = w' := by
  have e1 : (n : Int).tmod 4294967296 = ((n % 4294967296 : Nat) : Int) := by
    rw [Int.tmod_eq_emod_of_nonneg (by omega)]; omega
  go_enter Try.func28, Try.ntmps28
  go_wp2_with fail
  go_ret
  exact ⟨by show Ending.returned (.int .u64 ((n : Int) % 4294967296)) = _; rw [show (n : Int) % 4294967296 = ((n % 4294967296 : Nat) : Int) by omega], rfl⟩
theorem take_snocR (s : ByteArray) (k : Nat) (h : k < s.size) : s.data.toList.take (k + 1) = s.data.toList.take k ++ [s[k]] := by
  rw [List.take_add_one, List.getElem?_eq_getElem (by simpa using h)]
  simp
  rfl
theorem xor_step (h : Nat) (hh : h < 4294967296) (b : UInt8) : IntKind.u64.wrap (bits BinOp.xor IntKind.u64 (h : Int) (IntKind.u64.wrap (b.toNat : Int)) * 16777619) = (((h ^^^ b.toNat) * 16777619 : Nat) : Int) := by
  have hb : b.toNat < 256 := b.toNat_lt
  have e1 : IntKind.u64.wrap (b.toNat : Int) = (b.toNat : Int) := by rw [IntKind.wrap_u64]; omega
  rw [e1]
  have hx : h ^^^ b.toNat < 4294967296 := SH.xor_lt hh (by omega)
  rw [bits_xor_u64_nat h b.toNat (by omega) (by omega)]
  generalize h ^^^ b.toNat = X at *
  simp only [IntKind.wrap_u64]
  omega
def HashSays (id seed : ByteArray) (w : World) (e : Ending) (w' : World) : Prop := e = .returned (.int .i64 (SH.hash id seed : Nat)) ∧ Below w.heap.size w w'
def HRel (s : ByteArray) (h i : Value) : Prop := ∃ k H : Nat, k ≤ s.size ∧ i = .int .i64 k ∧ h = .int .u64 H ∧ Hid (H = SH.fnv (s.data.toList.take k))
def MRel (F : Nat) (h i : Value) : Prop := ∃ k H : Nat, k ≤ 2 ∧ i = .int .i64 k ∧ h = .int .u64 H ∧ H < 4294967296 ∧ Hid (k = 0 → H = F) ∧ Hid (k = 1 → H = SH.mix F) ∧ Hid (k = 2 → H = SH.mix (SH.mix F))
set_option maxRecDepth 100000 in
set_option maxHeartbeats 4000000 in
theorem HashOf_any (id seed : ByteArray) (h1 : id.size ≤ 1000000) (h2 : seed.size ≤ 1000000) (w : World) : Calls Try.prog 22 #[.string id, .string seed] w (HashSays id seed w) := by
  have hsz1 : (seed ++ (⟨#[32]⟩ : ByteArray)).size = seed.size + 1 := ByteArray.size_append
  have hsz : (seed ++ ⟨#[32]⟩ ++ id).size = seed.size + 1 + id.size := by rw [ByteArray.size_append, hsz1]
  have n1 : ¬ 9223372036854775807 < seed.size + (⟨#[32]⟩ : ByteArray).size := by show ¬ _ < _ + 1; omega
  have n2 : ¬ 9223372036854775807 < (seed ++ (⟨#[32]⟩ : ByteArray)).size + id.size := by rw [hsz1]; omega
  obtain ⟨W, cap, hconv, hbW, hcell⟩ := conv_strS (seed ++ ⟨#[32]⟩ ++ id) w
  have HH := Lib.hid (show SH.hash id seed = SH.last (SH.mix (SH.mix (SH.fnv (seed ++ ⟨#[32]⟩ ++ id).data.toList))) from rfl)
  unfold HashSays
  generalize SH.hash id seed = R at *
  go_enter Try.func22, Try.ntmps22
  go_wp2_with fail
  generalize seed ++ ⟨#[32]⟩ ++ id = T at *
  go_loop [5, 15] (fun h i => HRel T h i) (fun _ i => T.size - (intOf i).toNat)
  case atStart => exact ⟨0, SH.h0, by omega, rfl, rfl, by show _ = _; rw [List.take_zero]; rfl⟩
  case round =>
    obtain ⟨k, H, hk, rfl, rfl, HF⟩ := hrel
    have hH : H < 4294967296 := by rw [HF.out]; exact SH.fnv_lt _
    by_cases hlt : k < T.size
    · have hx := xor_step H hH T[k]
      have hc1 := hcell k T[k] (by rw [List.getElem?_eq_getElem (by simpa using hlt)]; simp; rfl)
      have hN := Lib.hid (show ((H ^^^ T[k].toNat) * 16777619) % 4294967296 = SH.fnv (T.data.toList.take (k + 1)) by rw [take_snocR T k hlt, SH.fnv_snoc, ← HF.out]; rfl)
      have hL : ∀ W, Calls Try.prog 28 #[.int .u64 (IntKind.u64.wrap (bits BinOp.xor IntKind.u64 (H : Int) (IntKind.u64.wrap (T[k].toNat : Int)) * 16777619))] W fun e w' => e = .returned (.int .u64 (((H ^^^ T[k].toNat) * 16777619) % 4294967296 : Nat)) ∧ W = w' := by
        intro W; rw [hx]; exact low_any _ W
      clear hx
      generalize (H ^^^ T[k].toNat) * 16777619 = Y at *
      go_wp2_with fail
      refine (hL _).mono ?_
      rintro e1 w1 ⟨rfl, rfl⟩
      go_wp2_with fail
      exact ⟨⟨k + 1, _, by omega, by simp, rfl, hN.out⟩, by simp [intOf]; omega⟩
    · have HF2 := Lib.hid (show H = SH.fnv T.data.toList by rw [HF.out, List.take_of_length_le (by simp; omega)])
      clear HF hcell hconv hsz1 n1 n2
      rw [← HF2.out] at HH
      clear HF2
      go_wp2_with fail
      go_loop [5, 27] (fun h i => MRel H h i) (fun _ i => 2 - (intOf i).toNat)
      case atStart => exact ⟨0, H, by omega, rfl, rfl, hH, Lib.hid fun _ => rfl, Lib.hid fun h => absurd h (by omega), Lib.hid fun h => absurd h (by omega)⟩
      case round =>
        obtain ⟨k2, G, hk2, rfl, rfl, hG, g0, g1, g2⟩ := hrel
        by_cases hlt2 : k2 < 2
        · have hx : IntKind.u64.wrap (bits BinOp.xor IntKind.u64 (G : Int) ((G : Int) / 32768) * 2246822519) = (((G ^^^ G / 32768) * 2246822519 : Nat) : Int) := by
            have hm := mixStep_u64 G 32768 2246822519 (by omega)
            have hz : G ^^^ G / 32768 < 4294967296 := SH.xor_lt hG (by omega)
            rw [Nat.mod_eq_of_lt (by omega)] at hm
            exact hm
          have hL : ∀ W, Calls Try.prog 28 #[.int .u64 (IntKind.u64.wrap (bits BinOp.xor IntKind.u64 (G : Int) ((G : Int) / 32768) * 2246822519))] W fun e w' => e = .returned (.int .u64 (SH.mix G : Nat)) ∧ W = w' := by
            intro W; rw [hx]; exact low_any _ W
          clear hx
          have hM := SH.mix_lt G
          go_wp2_with fail
          refine (hL _).mono ?_
          rintro e1 w1 ⟨rfl, rfl⟩
          go_wp2_with fail
          refine ⟨⟨k2 + 1, _, by omega, by simp, rfl, hM, Lib.hid fun h => absurd h (by omega), Lib.hid fun h => by rw [g0.out (by omega)], Lib.hid fun h => by rw [g1.out (by omega)]⟩, by simp [intOf]; omega⟩
        · obtain rfl : k2 = 2 := by omega
          have hX := xorShift_u64 G 8192 (by omega)
          have hl := SH.last_lt hG
          have hR := Lib.hid (show R = SH.last G by rw [HH.out, ← g2.out rfl])
          go_wp2_with fail
          go_ret
          exact ⟨by show Ending.returned (.int .i64 (wrap64 (bits BinOp.xor IntKind.u64 (G : Int) ((G : Int) / 8192)))) = _; rw [show bits BinOp.xor IntKind.u64 (G : Int) ((G : Int) / 8192) = ((G ^^^ G / 8192 : Nat) : Int) from hX, hR.out]; show Ending.returned (.int .i64 (wrap64 ((SH.last G : Nat) : Int))) = _; rw [IntWalk.wrap64_in _ ⟨by omega, by omega⟩], hbW⟩
end Go.Proofs.Ytcpneokkhjffeaa
