/- Contracts of FormatUint to the base 16, and of Digest. -/
import Derived.Test.YtplocijdbadcjaaGreatDoorFnv
import Derived.Test.YtplocijdbadcjaaGreatDoorBytes
import Derived.Test.YtplocijdbadcjaaGreatDoorBld
import Derived.Test.YtplocijdbadcjaaGreatDoorLays
import Derived.Shelf.Strings.Repeat
import Derived.Laws.BitsAllLaws
namespace Go.Proofs.YtplocijdbadcjaaGreatDoor
open Go.RowKit

/-- the entry of the table that TrailingZeros reads at 16 -/
def LaidT (w : World) : Prop := w.cell? ⟨5, 15, none⟩ = some (.int .u8 4)

theorem tz_b1 : bits BinOp.and IntKind.u64 16 (IntKind.u64.wrap (-16)) = 16 := by decide +kernel
theorem tz_b2 : IntKind.u64.wrap 4573923408821661840 / 288230376151711744 = 15 := by decide +kernel
set_option maxHeartbeats 1000000 in
theorem tz_any (w : World) (hl : LaidT w) : Calls Tryz.prog 129 #[.int .u64 16] w fun e w' => e = .returned (.int .i64 4) ∧ w = w' := by
  unfold LaidT at hl
  have h1 := tz_b1
  have h2 := tz_b2
  go_enter Tryz.func129, Tryz.ntmps129
  go_wp2
  go_ret
  exact ⟨rfl, rfl⟩
set_option maxHeartbeats 1000000 in
theorem pow_any (w : World) : Calls Tryz.prog 128 #[.int .i64 16] w fun e w' => e = .returned (.bool true) ∧ w = w' := by
  go_enter Tryz.func128, Tryz.ntmps128
  go_wp2
  go_ret
  exact ⟨congrArg (fun b => Ending.returned (.bool b)) (by decide +kernel : (bits BinOp.and IntKind.i64 16 15 == 0) = true), rfl⟩

def FmtOut (h : Nat) (w : World) (e : Ending) (w' : World) : Prop := ∃ n : Nat, 1 ≤ n ∧ n ≤ 16 ∧ h < 16 ^ n ∧ e = .returned (.tuple #[.slice none 0 0, .string ⟨(QM.hexN n h).toArray⟩]) ∧ Below w.heap.size w w'

/-- the array of formatBits when k digits stand at its end -/
def fmtCells (k n h : Nat) : Array Value := (List.replicate (n + 1) (Value.int .u8 0) ++ bvs (QM.hexN k h)).toArray
def FmtRel (h g : Nat) (w : World) (u i : Value) (wr : World) : Prop := ∃ k n U : Nat, k + n = 64 ∧ k ≤ 15 ∧ u = .int .u64 U ∧ i = .int .i64 ((n : Int) + 1) ∧ Hid (U = h / 16 ^ k) ∧ wr.heap[g]? = some (.cells (fmtCells k n h) 155 (0, 0)) ∧ Below w.heap.size w wr
theorem LaidT.lt {w : World} (h : LaidT w) : 5 < w.heap.size := by
  rcases Nat.lt_or_ge 5 w.heap.size with hlt | hge
  · exact hlt
  · unfold LaidT at h; simp [World.cell?, Array.getElem?_eq_none hge] at h
theorem LaidT.below {w w' : World} {B : Nat} (h : LaidT w) (hb : Below B w w') (hB : 5 < B) : LaidT w' := (hb.cell (p := ⟨5, 15, none⟩) hB).trans h
theorem fmt_set (k n h : Nat) (v : UInt8) (hv : v = QM.hexd ((h / 16 ^ k) % 16)) : (fmtCells k n h).setIfInBounds n (.int .u8 v.toNat) = (List.replicate n (Value.int .u8 0) ++ bvs (QM.hexN (k + 1) h)).toArray := by
  subst hv
  unfold fmtCells
  rw [QM.hexN_cons]
  apply Array.toList_inj.1
  simp only [Array.toList_setIfInBounds]
  rw [List.set_append_left _ _ (by simp)]
  rw [List.replicate_succ', List.set_append_right _ _ (by simp)]
  simp [bvs]
theorem set_heap (w : World) (g i : Nat) (v : Value) (cs : Array Value) (t : TypeId) (h : w.heap[g]? = some (.cells cs t (0, 0))) : (w.setCell ⟨g, i, none⟩ v).heap[g]? = some (.cells (cs.setIfInBounds i v) t (0, 0)) := by
  simp [World.setCell, Array.getElem?_modify, h]
theorem hexd36 : ∀ n : Fin 16, (({ data := #[48, 49, 50, 51, 52, 53, 54, 55, 56, 57, 97, 98, 99, 100, 101, 102, 103, 104, 105, 106, 107, 108, 109, 110, 111, 112, 113, 114, 115, 116, 117, 118, 119, 120, 121, 122] } : ByteArray))[n.val]'(Nat.lt_trans n.isLt (by decide)) = QM.hexd n.val := by decide +kernel

theorem and15 (U : Nat) (hU : U < 18446744073709551616) : bits BinOp.and IntKind.u64 (U : Int) 15 = ((U % 16 : Nat) : Int) := by
  rw [show (15 : Int) = ((15 : Nat) : Int) from rfl, u64_and_nat U 15 hU (by omega)]
  rw [show (15 : Nat) = 2 ^ 4 - 1 from rfl, Nat.and_two_pow_sub_one_eq_mod]
theorem fmt_cell (k n h : Nat) : ∃ v, (fmtCells k n h)[n]? = some v := by
  refine ⟨_, Array.getElem?_eq_getElem ?_⟩
  simp [fmtCells]
  omega
theorem fmt_next {H0 g k n U : Nat} {w wr : World} {i : Nat} {hi : i < 36} (hkn : k + n = 64) (HU : Hid (U = H0 / 16 ^ k)) (hH : H0 < 18446744073709551616) (h16 : 16 ≤ U) (hi16 : i = U % 16) (hg : w.heap.size ≤ g)
    (Hblk : Hid (wr.heap[g]? = some (.cells (fmtCells k n H0) 155 (0, 0)))) (hb : Below w.heap.size w wr) :
    FmtRel H0 g w (.int .u64 ((U : Int) / 16)) (.int .i64 (n : Int)) (wr.setCell ⟨g, n, none⟩ (.int .u8 ((({ data := #[48, 49, 50, 51, 52, 53, 54, 55, 56, 57, 97, 98, 99, 100, 101, 102, 103, 104, 105, 106, 107, 108, 109, 110, 111, 112, 113, 114, 115, 116, 117, 118, 119, 120, 121, 122] } : ByteArray))[i]'(hi)).toNat)) := by
  subst hi16
  have hk : k < 15 := by
    have h1 := HU.out
    rcases Nat.lt_or_ge k 15 with hlt | hge
    · exact hlt
    · have h2 : (16 : Nat) ^ 15 ≤ 16 ^ k := Nat.pow_le_pow_right (by omega) hge
      have h3 : H0 / 16 ^ k < 16 := by
        rw [Nat.div_lt_iff_lt_mul (by omega)]
        have : (16 : Nat) ^ 15 = 1152921504606846976 := by decide
        omega
      omega
  refine ⟨k + 1, n - 1, U / 16, by omega, by omega, congrArg (Value.int .u64) (by omega), congrArg (Value.int .i64) (by omega), ?_, ?_, hb.setCell hg _⟩
  · show _ = _
    rw [HU.out, Nat.div_div_eq_div_mul, Nat.pow_succ]
  · rw [set_heap _ _ _ _ _ _ Hblk.out]
    have e := hexd36 ⟨U % 16, Nat.mod_lt _ (by omega)⟩
    rw [fmt_set k n H0 _ (by rw [← HU.out]; exact e)]
    have e2 : n - 1 + 1 = n := by omega
    unfold fmtCells
    rw [e2]

theorem slice_arr (g n : Nat) (hn : n ≤ 64) : ∀ W : World, (Instr.sliceAt 155 (.pointer (some ⟨g, 0, none⟩)) (some (.int .i64 (n : Int))) none none).run Tryz.prog W = .ok (.slice (some ⟨g, n, none⟩) (65 - n) (65 - n)) W := by
  intro W
  have h1 : Tryz.prog.arrayLen 155 = 65 := by kernel_rfl
  have h2 : Tryz.prog.underlying 155 = some (.array (Tryz.prog.arrayLen 155) (Tryz.prog.elem 155)) := by kernel_rfl
  have h3 : (sizeOf (Tryz.prog.elem 155)).run Tryz.prog W = .ok 1 W := by kernel_rfl
  rw [run_sliceAt_array_l W 155 ⟨g, 0, none⟩ h2 .i64 (n : Int) (by omega) (by rw [h1]; omega), h3, h1]
  simp only [Result.andThen, slicedAt, Int.toNat_natCast]
  rw [if_neg (by omega)]
  unfold Addr.add
  split <;> simp_all
theorem fmt_lt {H0 k U : Nat} (HU : Hid (U = H0 / 16 ^ k)) (h16 : U < 16) : H0 < 16 ^ (k + 1) := by
  have h := HU.out
  rw [h, Nat.div_lt_iff_lt_mul (Nat.pow_pos (by omega))] at h16
  rw [Nat.pow_succ]
  omega
theorem conv_fin {H0 g k n U : Nat} {wr : World} {hi : U < 36} (hkn : k + n = 64) (HU : Hid (U = H0 / 16 ^ k)) (h16 : U < 16) (Hblk : Hid (wr.heap[g]? = some (.cells (fmtCells k n H0) 155 (0, 0)))) :
    (convert 85 9 (.slice (some ⟨g, n, none⟩) (65 - n) (65 - n))).run Tryz.prog
      (wr.setCell ⟨g, n, none⟩ (.int .u8 ((({ data := #[48, 49, 50, 51, 52, 53, 54, 55, 56, 57, 97, 98, 99, 100, 101, 102, 103, 104, 105, 106, 107, 108, 109, 110, 111, 112, 113, 114, 115, 116, 117, 118, 119, 120, 121, 122] } : ByteArray))[U]'(hi)).toNat)) =
    .ok (.string ⟨(QM.hexN (k + 1) H0).toArray⟩) (wr.setCell ⟨g, n, none⟩ (.int .u8 ((({ data := #[48, 49, 50, 51, 52, 53, 54, 55, 56, 57, 97, 98, 99, 100, 101, 102, 103, 104, 105, 106, 107, 108, 109, 110, 111, 112, 113, 114, 115, 116, 117, 118, 119, 120, 121, 122] } : ByteArray))[U]'(hi)).toNat)) := by
  have hb := set_heap wr g n (.int .u8 ((({ data := #[48, 49, 50, 51, 52, 53, 54, 55, 56, 57, 97, 98, 99, 100, 101, 102, 103, 104, 105, 106, 107, 108, 109, 110, 111, 112, 113, 114, 115, 116, 117, 118, 119, 120, 121, 122] } : ByteArray))[U]'(hi)).toNat) _ _ Hblk.out
  have e := hexd36 ⟨U, h16⟩
  rw [fmt_set k n H0 _ (by rw [← HU.out, Nat.mod_eq_of_lt h16]; exact e)] at hb
  generalize wr.setCell ⟨g, n, none⟩ (.int .u8 ((({ data := #[48, 49, 50, 51, 52, 53, 54, 55, 56, 57, 97, 98, 99, 100, 101, 102, 103, 104, 105, 106, 107, 108, 109, 110, 111, 112, 113, 114, 115, 116, 117, 118, 119, 120, 121, 122] } : ByteArray))[U]'(hi)).toNat) = W at hb ⊢
  have e1 : (⟨(QM.hexN (k + 1) H0).toArray⟩ : ByteArray) = strOfNums ((QM.hexN (k + 1) H0).map fun b => (b.toNat : Int)) := by simp [strOfNums, Function.comp_def]
  rw [e1]
  have hl := QM.hexN_len (k + 1) H0
  generalize QM.hexN (k + 1) H0 = l at hb hl ⊢
  refine run_convert_bytes_arg W 85 5 Tryz.underlying85 Tryz.underlying5 g n (65 - n) (65 - n) _ (by simp; omega) (fun i hi => ?_) 9 Tryz.underlying9
  rw [cell_of_row W g (n + i) _ _ _ hb]
  have hil : i < l.length := by omega
  simp [bvs, List.getElem?_append, List.getElem?_eq_getElem hil]

set_option maxRecDepth 100000 in
set_option maxHeartbeats 2000000 in
theorem formatBits_any (H0 : Nat) (hh : Hid (H0 < 18446744073709551616)) (w : World) (hl : LaidT w) :
    Calls Tryz.prog 113 #[.slice none 0 0, .int .u64 H0, .int .i64 16, .bool false, .bool false] w (FmtOut H0 w) := by
  have hz : Tryz.zeroCells155 = fmtCells 0 64 H0 := by kernel_rfl
  have Hz := Lib.hid hz
  clear hz
  go_enter Tryz.func113, Tryz.ntmps113
  go_wp2_with fail
  refine (pow_any _).mono ?_
  rintro en w1 ⟨rfl, rfl⟩
  go_wp2_with fail
  refine (tz_any _ (hl.below ((Below.refl _ _).alloc (Nat.le_refl _) _) hl.lt)).mono ?_
  rintro en w1 ⟨rfl, rfl⟩
  go_wp2_with fail
  go_loopw [1, 13] (fun u i wr => FmtRel H0 w.heap.size w u i wr) (fun _ i _ => (intOf i).toNat)
  case atStart => exact ⟨0, 64, H0, rfl, by omega, rfl, rfl, by show _ = _; simp, by rw [← Hz.out]; exact heap_alloc_new w _, (Below.refl _ _).alloc (Nat.le_refl _) _⟩
  case round =>
    obtain ⟨k, n, U, hkn, hk, rfl, rfl, HU, hblk, hb⟩ := hrel
    have hfrz : wr.frozen? ⟨w.heap.size, n, none⟩ = false := by simp [World.frozen?, hblk]
    obtain ⟨v0, hv0⟩ := fmt_cell k n H0
    have hcell : wr.cell? ⟨w.heap.size, n, none⟩ = some v0 := by rw [cell_of_row wr w.heap.size n _ _ _ hblk, hv0]
    have Hblk := Lib.hid hblk
    clear hblk hv0
    have hUle : Hid (U < 18446744073709551616) := by show _ < _; rw [HU.out]; exact Nat.lt_of_le_of_lt (Nat.div_le_self _ _) hh.out
    by_cases h16 : 16 ≤ U
    · have hand := and15 U hUle.out
      go_wp2_with fail
      exact ⟨fmt_next hkn HU hh.out h16 rfl (Nat.le_refl _) Hblk hb, by simp [intOf]⟩
    · have hsl := slice_arr w.heap.size n (by omega)
      have hcv := fun hi => conv_fin (hi := hi) hkn HU (by omega) Hblk
      have Hhb := Lib.hid hb
      go_wp2_with fail
      go_ret2
      exact ⟨k + 1, by omega, by omega, fmt_lt HU (by omega), rfl, Hhb.out.setCell (Nat.le_refl _) _⟩

def SaysN (h : Nat) (w : World) (e : Ending) (w' : World) : Prop := ∃ n : Nat, 1 ≤ n ∧ n ≤ 16 ∧ h < 16 ^ n ∧ e = .returned (.string ⟨(QM.hexN n h).toArray⟩) ∧ Below w.heap.size w w'
set_option maxHeartbeats 1000000 in
theorem FormatUintIn_any (H0 : Nat) (hh : Hid (H0 < 18446744073709551616)) (w : World) (hl : LaidT w) :
    Calls Tryz.prog 83 #[.int .u64 H0, .int .i64 16] w (SaysN H0 w) := by
  go_enter Tryz.func83, Tryz.ntmps83
  go_wp2_with fail
  refine (formatBits_any H0 hh _ hl).mono ?_
  rintro en w1 ⟨n, h1, h2, h3, rfl, hb⟩
  have H3 := Lib.hid h3
  clear h3
  go_wp2_with fail
  go_ret
  exact ⟨n, h1, h2, H3.out, rfl, hb⟩
set_option maxHeartbeats 1000000 in
theorem FormatUint_any (H0 : Nat) (hh : Hid (H0 < 18446744073709551616)) (w : World) (hl : LaidT w) :
    Calls Tryz.prog 53 #[.int .u64 H0, .int .i64 16] w (SaysN H0 w) := by
  go_enter Tryz.func53, Tryz.ntmps53
  go_wp2_with fail
  refine (FormatUintIn_any H0 hh _ hl).mono ?_
  rintro en w1 ⟨n, h1, h2, h3, rfl, hb⟩
  have H3 := Lib.hid h3
  clear h3
  go_wp2_with fail
  go_ret
  exact ⟨n, h1, h2, H3.out, rfl, hb⟩

theorem repeat_any (s : ByteArray) (c : Nat) (w : World) (hc : c ≤ 9223372036854775807) (hlen : s.size * c ≤ 140737488355328) : Calls Tryz.prog 54 #[.string s, .int .i64 c] w fun e w' => e = .returned (.string ⟨(Lib.repeatL s.data.toList c).toArray⟩) ∧ Below w.heap.size w w' :=
  Any.strings_Repeat Tryz.lays105 (Tryz.extra _ rfl rfl) s c w hc hlen
theorem repeat_zero : ∀ c, Lib.repeatL [48] c = List.replicate c 48
  | 0 => rfl
  | c + 1 => by show [48] ++ Lib.repeatL [48] c = _; rw [repeat_zero c]; rfl
theorem dig_fin {H0 n : Nat} (h2 : n ≤ 16) (h3 : H0 < 16 ^ n) {l : List UInt8} (hl : H0 = QM.fnv l) : (⟨(Lib.repeatL ({ data := #[48] } : ByteArray).data.toList (16 - n)).toArray⟩ : ByteArray) ++ ⟨(QM.hexN n H0).toArray⟩ = ⟨(QM.digest l).toArray⟩ := by
  have h := QM.hexN_zeros (16 - n) n H0 h3
  rw [show n + (16 - n) = 16 from by omega] at h
  unfold QM.digest
  rw [← hl, h]
  apply ByteArray.ext
  have e : Lib.repeatL ({ data := #[48] } : ByteArray).data.toList (16 - n) = List.replicate (16 - n) 48 := repeat_zero _
  rw [e]
  simp

set_option maxRecDepth 100000 in
set_option maxHeartbeats 1000000 in
theorem Digest_any (s : ByteArray) (hs : s.size ≤ 1000000000) (w : World) (hl : LaidT w) :
    Calls Tryz.prog 37 #[.string s] w (SaysB (QM.digest s.data.toList) w) := by
  go_enter Tryz.func37, Tryz.ntmps37
  go_wp2_with fail
  go_loop [3, 8] (fun h i => FnvRel s h i) (fun _ i => s.size - (intOf i).toNat)
  case atStart => exact ⟨0, 14695981039346656037, by omega, rfl, rfl, by show _ = _; rw [List.take_zero, QM.fnv_nil]⟩
  case round =>
    obtain ⟨k, H, hk, rfl, rfl, HH⟩ := hrel
    by_cases hlt : k < s.size
    · go_wp2_with fail
      refine ⟨⟨k + 1, _, by omega, rfl, congrArg (Value.int .u64) (fnv_prog H (fnv_hlt HH) _), fnv_next hlt HH⟩, by simp [intOf]; omega⟩
    · have HF : Hid (H = QM.fnv s.data.toList) := by show _ = _; rw [HH.out, List.take_of_length_le (by simp; omega)]
      have hlt64 : Hid (H < 18446744073709551616) := fnv_hlt HH
      clear HH
      go_wp2_with fail
      refine (FormatUint_any H hlt64 _ hl).mono ?_
      rintro en w1 ⟨n, h1, h2, h3, rfl, hb⟩
      have hfin := Lib.hid (dig_fin h2 h3 HF.out)
      clear h3
      have hxl : (QM.hexN n H).length = n := QM.hexN_len n H
      generalize QM.hexN n H = xs at *
      have hxl2 : xs.length ≤ 16 := by omega
      go_wp2_with fail
      clear hxl
      rw [show ((16 : Int) - (n : Int)) = ((16 - n : Nat) : Int) from by omega]
      refine (repeat_any ⟨#[48]⟩ (16 - n) _ (by omega) (by show 1 * (16 - n) ≤ _; omega)).mono ?_
      rintro en w2 ⟨rfl, hb2⟩
      have hyl : (Lib.repeatL ({ data := #[48] } : ByteArray).data.toList (16 - n)).length ≤ 16 := by rw [Lib.repeatL_length]; show (16 - n) * 1 ≤ 16; omega
      generalize Lib.repeatL ({ data := #[48] } : ByteArray).data.toList (16 - n) = ys at *
      go_wp2_with fail
      go_ret
      exact ⟨by rw [← hfin.out]; rfl, hb.trans (hb2.mono hb.size)⟩
end Go.Proofs.YtplocijdbadcjaaGreatDoor
