/- Contract of the reference's Quoted. -/
import Derived.Test.YthclllebmbmlmaaDoorQuoteA
import Derived.Deep.RegionLaw
namespace Go.Proofs.YthclllebmbmlmaaDoor
open Go.RowKit

theorem quote_step {s : ByteArray} {w wr w2 : World} {k : Nat} {l q : List UInt8} {u v2 : Value} {row : Option Nat} {o : Obj} (hlt : k < s.size) (Hl : Hid (l = 34 :: (s.data.toList.take k).flatMap QM.qb)) (hll : l.length ≤ 4 * k + 1) (Hq : Hid (QM.qb s[k] = q))
    (hown2 : OwnB w2 w.heap.size v2 (l ++ q)) (hb : Below w.heap.size w wr) (hg : (wr.alloc o).grownBy w2 row) (hr : row = u.ownBlock) (hbase : ∀ j, u.ownBlock = some j → w.heap.size ≤ j) : QuoteRel s w v2 (.int .i64 (k + 1)) w2 := by
  subst hr
  refine ⟨k + 1, l ++ q, ?_, by omega, rfl, hown2, ?_, (hb.alloc hb.size _).grown hg (by have := hb.size; simp; omega) hbase⟩
  · rw [Hl.out, flat_snoc s k hlt, Hq.out]; rfl
  · have := (QM.qb_len s[k]).2; rw [Hq.out] at this; rw [List.length_append]; omega
theorem quote_step0 {s : ByteArray} {w wr w2 : World} {k : Nat} {l q : List UInt8} {u v2 : Value} {row : Option Nat} (hlt : k < s.size) (Hl : Hid (l = 34 :: (s.data.toList.take k).flatMap QM.qb)) (hll : l.length ≤ 4 * k + 1) (Hq : Hid (QM.qb s[k] = q))
    (hown2 : OwnB w2 w.heap.size v2 (l ++ q)) (hb : Below w.heap.size w wr) (hg : wr.grownBy w2 row) (hr : row = u.ownBlock) (hbase : ∀ j, u.ownBlock = some j → w.heap.size ≤ j) : QuoteRel s w v2 (.int .i64 (k + 1)) w2 := by
  subst hr
  refine ⟨k + 1, l ++ q, ?_, by omega, rfl, hown2, ?_, hb.grown hg hb.size hbase⟩
  · rw [Hl.out, flat_snoc s k hlt, Hq.out]; rfl
  · have := (QM.qb_len s[k]).2; rw [Hq.out] at this; rw [List.length_append]; omega
theorem quote_meas {s : ByteArray} {k : Nat} (h : k < s.size) : s.size - (intOf (.int .i64 ((k : Int) + 1))).toNat < s.size - (intOf (.int .i64 (k : Int))).toNat := by simp [intOf]; omega
theorem qb_a {c : UInt8} (h : c = 34 ∨ c = 92) : QM.qb c = [92, c] := by unfold QM.qb; rw [if_pos h]
theorem qb_b {c : UInt8} (h : c = 10) : QM.qb c = [92, 110] := by subst h; decide
theorem qb_c {c : UInt8} (h1 : c ≠ 34) (h2 : c ≠ 92) (h3 : c ≠ 10) (h4 : c.toNat < 33 ∨ 127 ≤ c.toNat) : QM.qb c = [92, 120, QM.hexd (c.toNat / 16), QM.hexd (c.toNat % 16)] := by unfold QM.qb; rw [if_neg (by simp [h1, h2]), if_neg h3, if_pos h4]
theorem qb_d {c : UInt8} (h1 : c ≠ 34) (h2 : c ≠ 92) (h3 : c ≠ 10) (h4 : ¬ (c.toNat < 33 ∨ 127 ≤ c.toNat)) : QM.qb c = [c] := by unfold QM.qb; rw [if_neg (by simp [h1, h2]), if_neg h3, if_neg h4]
theorem u8_eq {c : UInt8} {n : Nat} (hn : n < 256) (h : c = UInt8.ofNat n) : ((c.toNat : Int) == (n : Int)) = true := by subst h; simp; omega
theorem u8_ne {c : UInt8} {n : Nat} (_hn : n < 256) (h : c ≠ UInt8.ofNat n) : ((c.toNat : Int) == (n : Int)) = false := bool_int fun e => h (by rw [← Int.natCast_inj.1 e]; simp)

theorem tmod_nn (n : Nat) : (n : Int).tmod 16 = ((n % 16 : Nat) : Int) := by rw [Int.tmod_eq_emod_of_nonneg (by omega)]; omega
theorem tmod_lt (n : Nat) : (n : Int).tmod 16 < 16 := by rw [tmod_nn]; omega
theorem tmod_nonneg (n : Nat) : 0 ≤ (n : Int).tmod 16 := by rw [tmod_nn]; omega
theorem hex_at : ∀ n : Fin 16, (({ data := #[48, 49, 50, 51, 52, 53, 54, 55, 56, 57, 97, 98, 99, 100, 101, 102] } : ByteArray))[n.val]'(n.isLt) = QM.hexd n.val := by decide +kernel
theorem hex_get (n : Nat) (h : n < 16) : (({ data := #[48, 49, 50, 51, 52, 53, 54, 55, 56, 57, 97, 98, 99, 100, 101, 102] } : ByteArray))[n]'(h) = QM.hexd n := hex_at ⟨n, h⟩
theorem qb_hex {b c : UInt8} (hb : b = c) (hq : QM.qb c = [92, 120, QM.hexd (c.toNat / 16), QM.hexd (c.toNat % 16)]) {h1 : ((c.toNat : Int) / 16).toNat < 16} {h2 : ((c.toNat : Int).tmod 16).toNat < 16} :
    Hid (QM.qb b = [92, 120, (({ data := #[48, 49, 50, 51, 52, 53, 54, 55, 56, 57, 97, 98, 99, 100, 101, 102] } : ByteArray))[((c.toNat : Int) / 16).toNat], (({ data := #[48, 49, 50, 51, 52, 53, 54, 55, 56, 57, 97, 98, 99, 100, 101, 102] } : ByteArray))[((c.toNat : Int).tmod 16).toNat]]) := by
  subst hb
  show QM.qb b = _
  have e1 : ((b.toNat : Int) / 16).toNat = b.toNat / 16 := by omega
  have e2 : ((b.toNat : Int).tmod 16).toNat = b.toNat % 16 := by rw [tmod_nn]; omega
  rw [hq, hex_get _ h1, hex_get _ h2, e1, e2]

set_option maxRecDepth 100000 in
set_option maxHeartbeats 2000000 in
theorem Quoted_any (s : ByteArray) (hs : s.size ≤ 1000000000) (w : World) :
    Calls Tryd.prog 6 #[.string s] w (SaysB (QM.quote s.data.toList) w) := by
  go_enter Tryd.func6, Tryd.ntmps6
  go_wp2_with fail
  go_loopw [3, 9] (fun v i wr => QuoteRel s w v i wr) (fun _ i _ => s.size - (intOf i).toNat)
  case atStart => exact ⟨0, [34], rfl, by omega, rfl, OwnB.made w [34] (by decide), by simp, (Below.refl _ _).alloc (Nat.le_refl _) _⟩
  case round =>
    obtain ⟨k, l, Hl, hk, rfl, hown, hll, hb⟩ := hrel
    by_cases hlt : k < s.size
    · have H4 : ∀ q, QM.qb s[k] = q → Hid (QM.qb s[k] = q) := fun _ h => h
      by_cases h1 : s[k] = 34
      · have Hq := H4 _ (qb_a (.inl h1))
        have h1' : ((s[k].toNat : Int) == 34) = true := u8_eq (n := 34) (by omega) h1
        clear h1 H4
        go_wp2_with (at_builtin; refine app_row _ rfl (.tmp 26) (.tmp 28) rfl w.heap.size u3 l rfl (hown.alloc _) _ 2 [92, s[k]] rfl ?_ rfl (lit_cells wr [92, s[k]] _) ?d1 ?d2; intro v2 w2 hown2 hg2)
        case d1 => omega
        case d2 => have := hb.size; simp; omega
        exact ⟨quote_step hlt Hl hll Hq hown2 hb hg2 rfl hown.base_le, quote_meas hlt⟩
      by_cases h2 : s[k] = 92
      · have Hq := H4 _ (qb_a (.inr h2))
        have h1' : ((s[k].toNat : Int) == 34) = false := u8_ne (n := 34) (by omega) h1
        have h2' : ((s[k].toNat : Int) == 92) = true := u8_eq (n := 92) (by omega) h2
        clear h1 h2 H4
        go_wp2_with (at_builtin; refine app_row _ rfl (.tmp 26) (.tmp 28) rfl w.heap.size u3 l rfl (hown.alloc _) _ 2 [92, s[k]] rfl ?_ rfl (lit_cells wr [92, s[k]] _) ?e1 ?e2; intro v2 w2 hown2 hg2)
        case e1 => omega
        case e2 => have := hb.size; simp; omega
        exact ⟨quote_step hlt Hl hll Hq hown2 hb hg2 rfl hown.base_le, quote_meas hlt⟩
      have h1' : ((s[k].toNat : Int) == 34) = false := u8_ne (n := 34) (by omega) h1
      have h2' : ((s[k].toNat : Int) == 92) = false := u8_ne (n := 92) (by omega) h2
      by_cases h3 : s[k] = 10
      · have Hq := H4 _ (qb_b h3)
        have h3' : ((s[k].toNat : Int) == 10) = true := u8_eq (n := 10) (by omega) h3
        clear h1 h2 h3 H4
        go_wp2_with (at_builtin; refine app_str _ rfl (.tmp 33) _ rfl w.heap.size u3 l rfl hown _ rfl ?_ ?f1 hb.size; intro v2 w2 hown2 hg2)
        case f1 => simp only [ByteArray.size, List.size_toArray]; simp; omega
        exact ⟨quote_step0 hlt Hl hll Hq hown2 hb hg2 rfl hown.base_le, quote_meas hlt⟩
      have h3' : ((s[k].toNat : Int) == 10) = false := u8_ne (n := 10) (by omega) h3
      by_cases h4 : s[k].toNat < 33 ∨ 127 ≤ s[k].toNat
      · have Hq := H4 _ (qb_c h1 h2 h3 h4)
        clear h1 h2 h3 H4
        rcases h4 with h4 | h4
        · go_wp2_with fail
          generalize hc : s[k] = c at *
          have Hc := Lib.hid hc
          clear hc
          have hd1 : (c.toNat : Int) / 16 < 16 := by have := UInt8.toNat_lt c; omega
          have hd2 : 0 ≤ (c.toNat : Int) / 16 := by omega
          have hd3 : IntKind.u8.wrap ((c.toNat : Int) / 16) = (c.toNat : Int) / 16 := IntWalk.u8_in _ (by omega)
          have hm1 : (c.toNat : Int).tmod 16 < 16 := tmod_lt _
          have hm2 : 0 ≤ (c.toNat : Int).tmod 16 := tmod_nonneg _
          go_region_law (refine step_app_row rfl (.tmp 42) (.tmp 49) rfl w.heap.size u3 l rfl ((hown.drew).alloc _) _ 4 _ rfl ?_ rfl (lit_cells wr.drew [92, 120, _, _] _) (by omega) (by have := hb.size; simp; omega); intro v2 w2 hown2 hg2)
          all_goals go_wp2_with fail
          all_goals exact ⟨quote_step hlt Hl hll (qb_hex Hc.out Hq.out) hown2 hb.drew hg2 rfl hown.base_le, quote_meas hlt⟩
        · have h5 : ¬ s[k].toNat < 33 := by omega
          go_wp2_with fail
          generalize hc : s[k] = c at *
          have Hc := Lib.hid hc
          clear hc
          have hd1 : (c.toNat : Int) / 16 < 16 := by have := UInt8.toNat_lt c; omega
          have hd2 : 0 ≤ (c.toNat : Int) / 16 := by omega
          have hd3 : IntKind.u8.wrap ((c.toNat : Int) / 16) = (c.toNat : Int) / 16 := IntWalk.u8_in _ (by omega)
          have hm1 : (c.toNat : Int).tmod 16 < 16 := tmod_lt _
          have hm2 : 0 ≤ (c.toNat : Int).tmod 16 := tmod_nonneg _
          go_region_law (refine step_app_row rfl (.tmp 42) (.tmp 49) rfl w.heap.size u3 l rfl ((hown.drew).alloc _) _ 4 _ rfl ?_ rfl (lit_cells wr.drew [92, 120, _, _] _) (by omega) (by have := hb.size; simp; omega); intro v2 w2 hown2 hg2)
          all_goals go_wp2_with fail
          all_goals exact ⟨quote_step hlt Hl hll (qb_hex Hc.out Hq.out) hown2 hb.drew hg2 rfl hown.base_le, quote_meas hlt⟩
      · have Hq := H4 _ (qb_d h1 h2 h3 h4)
        clear h1 h2 h3 H4
        have h5 : 33 ≤ s[k].toNat := by omega
        have h6 : s[k].toNat < 127 := by omega
        clear h4
        go_wp2_with (at_builtin; refine app_row _ rfl (.tmp 15) (.tmp 17) rfl w.heap.size u3 l rfl (hown.alloc _) _ 1 [s[k]] rfl ?_ rfl (lit_cells wr [s[k]] _) ?g1 ?g2; intro v2 w2 hown2 hg2)
        case g1 => omega
        case g2 => have := hb.size; simp; omega
        exact ⟨quote_step hlt Hl hll Hq hown2 hb hg2 rfl hown.base_le, quote_meas hlt⟩
    · go_wp2_with (at_builtin; refine app_row _ rfl (.tmp 52) (.tmp 53) rfl w.heap.size u3 l rfl (hown.alloc _) _ 1 [34] rfl ?_ rfl (lit_cells wr [34] _) ?d1 ?d2; intro v2 w2 hown2 hg2; have hcv := conv_bytes hown2)
      case d1 => omega
      case d2 => have := hb.size; simp; omega
      go_ret
      refine ⟨ret_str ?_, (hb.alloc hb.size _).grown hg2 (by have := hb.size; simp; omega) hown.base_le⟩
      have e : List.take k s.data.toList = s.data.toList := List.take_of_length_le (by simp; omega)
      rw [Hl.out, e]; rfl
end Go.Proofs.YthclllebmbmlmaaDoor
