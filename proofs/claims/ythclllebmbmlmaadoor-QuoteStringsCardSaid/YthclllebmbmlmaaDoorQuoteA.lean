/- Contract of Quote. -/
import Derived.Test.YthclllebmbmlmaaDoorQuote
import Derived.Test.YthclllebmbmlmaaDoorBytes
namespace Go.Proofs.YthclllebmbmlmaaDoor
open Go.RowKit

/-- a string is answered; what was there has not turned -/
def SaysB (l : List UInt8) (w : World) (e : Ending) (w' : World) : Prop := e = .returned (.string ⟨l.toArray⟩) ∧ Below w.heap.size w w'
def QuoteRel (s : ByteArray) (w : World) (v i : Value) (wr : World) : Prop :=
  ∃ (k : Nat) (l : List UInt8), Hid (l = 34 :: (s.data.toList.take k).flatMap QM.qb) ∧ k ≤ s.size ∧ i = .int .i64 k ∧ OwnB wr w.heap.size v l ∧ l.length ≤ 4 * k + 1 ∧ Below w.heap.size w wr
theorem flat_len (l : List UInt8) : (l.flatMap QM.qb).length ≤ 4 * l.length := by
  induction l with
  | nil => simp
  | cons a l ih => have := (QM.qb_len a).2; simp only [List.flatMap_cons, List.length_append, List.length_cons]; omega
theorem take_snoc (s : ByteArray) (k : Nat) (h : k < s.size) : s.data.toList.take (k + 1) = s.data.toList.take k ++ [s[k]] := by
  rw [List.take_succ_eq_append_getElem (by simpa using h)]; rfl
theorem flat_snoc (s : ByteArray) (k : Nat) (h : k < s.size) : 34 :: (s.data.toList.take (k + 1)).flatMap QM.qb = (34 :: (s.data.toList.take k).flatMap QM.qb) ++ QM.qb s[k] := by
  rw [take_snoc s k h]; simp

set_option maxHeartbeats 1000000 in
theorem Quote_any (s : ByteArray) (hs : s.size ≤ 1000000000) (w : World) :
    Calls Tryd.prog 5 #[.string s] w (SaysB (QM.quote s.data.toList) w) := by
  have hconv := fun (W : World) (v : Value) (l : List UInt8) (h : OwnB W w.heap.size v l) => conv_bytes h
  have Hconv := Lib.hid hconv
  clear hconv
  go_enter Tryd.func5, Tryd.ntmps5
  go_wp2_with fail
  go_loopw [3, 8] (fun v i wr => QuoteRel s w v i wr) (fun _ i _ => s.size - (intOf i).toNat)
  case atStart => exact ⟨0, [34], rfl, by omega, rfl, OwnB.made w [34] (by decide), by simp, (Below.refl _ _).alloc (Nat.le_refl _) _⟩
  case round =>
    obtain ⟨k, l, Hl, hk, rfl, hown, hll, hb⟩ := hrel
    by_cases hlt : k < s.size
    · go_wp2_with fail
      generalize hc : s[k] = c
      have Hc := Lib.hid hc
      clear hc
      refine (quoteByte_any c _).mono ?_
      rintro e w1 ⟨rfl, n, rfl⟩
      have hql := (QM.qb_len c).2
      generalize hq : QM.qb c = q at *
      have Hq := Lib.hid hq
      clear hq
      go_wp2_with (at_builtin; refine app_str _ rfl (.tmp 11) (.tmp 15) rfl w.heap.size u3 l rfl (hown.drewN n) _ rfl ?_ ?c1 hb.size; intro v2 w2 hown2 hg2)
      case c1 => simp only [ByteArray.size, List.size_toArray]; omega
      refine ⟨⟨k + 1, l ++ q, ?_, by omega, rfl, hown2, by rw [List.length_append]; omega, (below_drewN hb n).grown hg2 hb.size hown.base_le⟩, by simp [intOf]; omega⟩
      rw [Hl.out, flat_snoc s k hlt, Hc.out, Hq.out]; rfl
    · go_wp2_with (at_builtin; refine app_row _ rfl (.tmp 18) (.tmp 19) rfl w.heap.size u3 l rfl (hown.alloc _) _ 1 [34] rfl ?_ rfl (lit_cells wr [34] _) ?d1 ?d2; intro v2 w2 hown2 hg2; have hcv := conv_bytes hown2)
      case d1 => omega
      case d2 => have := hb.size; simp; omega
      go_ret
      refine ⟨ret_str ?_, (hb.alloc hb.size _).grown hg2 (by have := hb.size; simp; omega) hown.base_le⟩
      have e : List.take k s.data.toList = s.data.toList := List.take_of_length_le (by simp; omega)
      rw [Hl.out, e]; rfl
end Go.Proofs.YthclllebmbmlmaaDoor
